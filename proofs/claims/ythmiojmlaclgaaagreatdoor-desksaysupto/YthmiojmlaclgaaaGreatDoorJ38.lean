/- What the law stands on: DkI RefDkE0. -/
import Derived.Test.YthmiojmlaclgaaaGreatDoorJ00
import Derived.Test.YthmiojmlaclgaaaGreatDoorJ36
import Derived.Test.YthmiojmlaclgaaaGreatDoorJ25
import Derived.Test.YthmiojmlaclgaaaGreatDoorJ02
import Derived.Test.YthmiojmlaclgaaaGreatDoorJ16
import Derived.Test.YthmiojmlaclgaaaGreatDoorJ20
import Derived.Test.YthmiojmlaclgaaaGreatDoorJ33
import Derived.Test.YthmiojmlaclgaaaGreatDoorJ05
set_option maxRecDepth 100000
set_option maxHeartbeats 12800000
namespace Go.Proofs.YthmiojmlaclgaaaGreatDoor.Fx
open Go.RowKit
section
variable {base:Nat} {w w':World} {b s:Nat} {d:Dsk} {a:Option Addr} {cap:Nat} {X:Nat->Exm}
def LossR (z:Int) (d:Dsk) (e:Ending):Prop:=∃ v,e=.returned (.tuple #[.int .i64 v,.int .i64 (lossE z d)])/\(lossE z d=0->v=lossV z d)/\-2147483647<=v/\v<=2147483647
theorem lossE_out {z:Int} (h:¬ (0<=z/\z < (d.n:Int))):lossE z d=4:=by unfold lossE; rw [if_neg h]
theorem lossE_in {z:Int} (h:0<=z/\z < (d.n:Int)):lossE z d=runE d.c d.n d.X d.DI d.DO (d.k:Int):=by unfold lossE; rw [if_pos h]
theorem lossV_bd (z:Int) (d:Dsk):-2147483647<=lossV z d/\lossV z d<=2147483647:=by
 unfold lossV lossI
 rw [← dotTo_in]
 exact Zav _
theorem inPup_set8 {w:World} {I H O g1 g2 g3 g4 p:Nat} {D:PD} (h:InPup w (rpup I H O (some ⟨g1,0,none⟩) (H * I) (some ⟨g2,0,none⟩) (O * H) (some ⟨g3,0,none⟩) H (some ⟨g4,0,none⟩) O) D) (n1:g1 ≠ p) (n2:g2 ≠ p) (n3:g3 ≠ p) (n4:g4 ≠ p) (v0 v1 v2 v3 v4 v5 v6 v7:Value) :
  InPup ((((((((w.setCell ⟨p,0,none⟩ v0).setCell ⟨p,1,none⟩ v1).setCell ⟨p,2,none⟩ v2).setCell ⟨p,3,none⟩ v3).setCell ⟨p,4,none⟩ v4).setCell ⟨p,5,none⟩ v5).setCell ⟨p,6,none⟩ v6).setCell ⟨p,7,none⟩ v7) (rpup I H O (some ⟨g1,0,none⟩) (H * I) (some ⟨g2,0,none⟩) (O * H) (some ⟨g3,0,none⟩) H (some ⟨g4,0,none⟩) O) D:=by
 have key:∀ (g n c:Nat) (xs:List Int),g ≠ p->Lst w (some ⟨g,0,none⟩) n c xs->Lst ((((((((w.setCell ⟨p,0,none⟩ v0).setCell ⟨p,1,none⟩ v1).setCell ⟨p,2,none⟩ v2).setCell ⟨p,3,none⟩ v3).setCell ⟨p,4,none⟩ v4).setCell ⟨p,5,none⟩ v5).setCell ⟨p,6,none⟩ v6).setCell ⟨p,7,none⟩ v7) (some ⟨g,0,none⟩) n c xs:=fun g n c xs hg hl=>(((((((hl.setFar2 hg).setFar2 hg).setFar2 hg).setFar2 hg).setFar2 hg).setFar2 hg).setFar2 hg).setFar2 hg
 exact ⟨key _ _ _ _ n1 h.x1,key _ _ _ _ n2 h.x2,key _ _ _ _ n3 h.b1,key _ _ _ _ n4 h.b2⟩
theorem loss_out (h:DkIn base w b s d a cap X) (z:Int) (hz:¬ (0<=z/\z < (d.n:Int))):Calls Tryz.prog 36 #[.pointer (some ⟨b,0,none⟩),.int .i64 z] w fun e w'=>LossR z d e/\Below w.heap.size w w':=by
 have HE:=Lib.hid (lossE_out hz)
 have c11:=h.cells.2.1
 by_cases h0:z < 0
 ·go_enter Tryz.func36,Tryz.ntmps36
  go_wp2_with fail
  go_ret2
  exact ⟨⟨0,by rw [HE.out]; rfl,(fun e=>by rw [HE.out] at e; cases e),by omega,by omega⟩,br⟩
 ·have h1:(d.n:Int)<=z:=by omega
  have h2:0<=z:=by omega
  go_enter Tryz.func36,Tryz.ntmps36
  go_wp2_with fail
  go_ret2
  exact ⟨⟨0,by rw [HE.out]; rfl,(fun e=>by rw [HE.out] at e; cases e),by omega,by omega⟩,br⟩
theorem loss_bad (h:DkIn base w b s d a cap X) (z:Int) (hz:0<=z/\z < (d.n:Int)) (hE:runE d.c d.n d.X d.DI d.DO (d.k:Int) ≠ 0):Calls Tryz.prog 36 #[.pointer (some ⟨b,0,none⟩),.int .i64 z] w fun e w'=>LossR z d e/\Below w.heap.size w w':=by
 have HE:=Lib.hid (lossE_in hz)
 have c11:=h.cells.2.1
 have TK:=Zcf h
 have HEX:Hid (runE d.c d.n X d.DI d.DO (d.k:Int)=runE d.c d.n d.X d.DI d.DO (d.k:Int)):=by show _=_; unfold runE; rw [h.course]
 have HRB:Hid (∀ q,Below w.heap.size w q->Calls Tryz.prog 58 #[d.c.val,.slice a d.n cap,.int .i64 (d.k:Int)] q fun e w'=>∃ gb kb,e=.returned (.tuple #[.slice gb (runN d.c d.n X d.DI d.DO (d.k:Int)) kb,.int .i64 (runE d.c d.n d.X d.DI d.DO (d.k:Int))])/\Below q.heap.size q w'):=fun q hq=>by
  rw [← HEX.out]
  refine (tRun_calls d.c h.ok.s a d.n cap X d.DI d.DO _ q (h.below hq).exs).mono ?_
  rintro e w' ⟨gb,kb,Y,rfl,_,hb⟩
  exact ⟨gb,kb,rfl,hb⟩
 obtain ⟨E,HEE⟩:=nm (runE d.c d.n d.X d.DI d.DO (d.k:Int))
 obtain ⟨RN,HRN⟩:=nm (runN d.c d.n X d.DI d.DO (d.k:Int))
 rw [HEE.out] at HRB HE hE
 rw [HRN.out] at HRB
 obtain ⟨k,HKK⟩:=nm (α:=Nat) (d.k)
 rw [HKK.out] at HRB TK
 have KC:Hid (∀ q,Below w.heap.size w q->q.cell? ⟨b,0,none⟩=some (.int .i64 d.c.i)/\q.cell? ⟨b,1,none⟩=some (.int .i64 d.c.h)/\q.cell? ⟨b,2,none⟩=some (.int .i64 d.c.o)/\q.cell? ⟨b,3,none⟩=some (.int .u64 d.c.seed)/\q.cell? ⟨b,4,none⟩=some (.int .i64 d.c.batch)/\q.cell? ⟨b,5,none⟩=some (.int .i64 d.c.steps)/\q.cell? ⟨b,6,none⟩=some (.int .i64 d.c.rate)/\q.cell? ⟨b,7,none⟩=some (.int .i64 d.c.decay)/\q.cell? ⟨b,8,none⟩=some (.int .i64 d.c.how)/\q.cell? ⟨b,9,none⟩=some (.int .i64 d.c.keep)/\q.cell? ⟨b,10,none⟩=some (.int .i64 d.c.clip)/\q.cell? ⟨b,11,none⟩=some (.slice a d.n cap)):=fun q hq=>⟨(h.below hq).cells.1.c0,(h.below hq).cells.1.c1,(h.below hq).cells.1.c2,(h.below hq).cells.1.c3,(h.below hq).cells.1.c4,(h.below hq).cells.1.c5,(h.below hq).cells.1.c6,(h.below hq).cells.1.c7,(h.below hq).cells.1.c8,(h.below hq).cells.1.c9,(h.below hq).cells.1.c10,(h.below hq).cells.2.1⟩
 have k1:(E == 0)=false:=by rw [beq_eq_false_iff_ne]; exact hE
 have h1:¬ (d.n:Int)<=z:=by omega
 have h2:¬ z < 0:=by omega
 clear HEX HEE HRN h
 simp only [Cfg.val,Cfg.cells] at HRB
 go_enter Tryz.func36,Tryz.ntmps36
 go_wp2_with (go_at_call 57; refine TK.mono ?_; rintro e w1 ⟨rfl,hw1⟩; have hd1:Below w.heap.size w w1.drew:=hw1.drew)
 refine wp_region_held_drew (S:=fun q=>q.cell? ⟨b,0,none⟩=some (.int .i64 d.c.i)/\q.cell? ⟨b,1,none⟩=some (.int .i64 d.c.h)/\q.cell? ⟨b,2,none⟩=some (.int .i64 d.c.o)/\q.cell? ⟨b,3,none⟩=some (.int .u64 d.c.seed)/\q.cell? ⟨b,4,none⟩=some (.int .i64 d.c.batch)/\q.cell? ⟨b,5,none⟩=some (.int .i64 d.c.steps)/\q.cell? ⟨b,6,none⟩=some (.int .i64 d.c.rate)/\q.cell? ⟨b,7,none⟩=some (.int .i64 d.c.decay)/\q.cell? ⟨b,8,none⟩=some (.int .i64 d.c.how)/\q.cell? ⟨b,9,none⟩=some (.int .i64 d.c.keep)/\q.cell? ⟨b,10,none⟩=some (.int .i64 d.c.clip)/\q.cell? ⟨b,11,none⟩=some (.slice a d.n cap)) (by kernel_rfl) (by with_reducible exact (KC.out _ hd1)) (fun hHeld=>?_)
 refine tk 0 (h:=?_)
 refine tk 1 (h:=?_)
 refine tk 2 (h:=?_)
 refine tk 3 (h:=?_)
 refine tk 4 (h:=?_)
 refine tk 5 (h:=?_)
 refine tk 6 (h:=?_)
 refine tk 7 (h:=?_)
 refine tk 8 (h:=?_)
 refine rd 9 (h:=fun K hK=>?_)
 clear hHeld
 go_simp
 (go_at_call 58; refine (HRB.out _ hd1).mono ?_; rintro e w2 ⟨gb,kb,rfl,bel2⟩; have hd2:=hd1.trans (bel2.mono hd1.size); have Z2:=KC.out _ hd2)
 go_wp2_with fail
 refine hK.out _ _ ?_ (fun hHeld=>?_)
 ·with_reducible exact Z2
 clear hK K
 try simp only [Act.put,List.setIfInBounds_toArray,List.set_cons_zero,List.set_cons_succ]
 refine tk 10 (h:=?_)
 refine tk 11 (h:=?_)
 refine tk 12 (h:=?_)
 refine tk 13 (h:=?_)
 refine tk 14 (h:=?_)
 refine wpAnyH_done (by kernel_rfl) ?_ _
 go_wp2_with fail
 go_ret2
 exact ⟨⟨0,by rw [HE.out]; rfl,fun e=>absurd (HE.out.symm.trans e) hE,by omega,by omega⟩,hd2⟩
theorem loss_good (h:DkIn base w b s d a cap X) (z:Int) (hz:0<=z/\z < (d.n:Int)) (hE:runE d.c d.n d.X d.DI d.DO (d.k:Int)=0):Calls Tryz.prog 36 #[.pointer (some ⟨b,0,none⟩),.int .i64 z] w fun e w'=>LossR z d e/\Below w.heap.size w w':=by
 have HE:Hid (lossE z d=0):=(lossE_in hz).trans hE
 have HLV:=Lib.hid (lossV_bd z d)
 have c11:=h.cells.2.1
 have TK:=Zcf h
 have hEX:runE d.c d.n X d.DI d.DO (d.k:Int)=0:=by rw [← hE]; unfold runE; rw [h.course]
 have hRN:runN d.c d.n X d.DI d.DO (d.k:Int)=d.k+1:=by unfold runN; rw [if_pos hEX]; simp
 have HRG:Hid (∀ q,Below w.heap.size w q->Calls Tryz.prog 58 #[d.c.val,.slice a d.n cap,.int .i64 (d.k:Int)] q fun e w'=>∃ gb kb Y,e=.returned (.tuple #[.slice gb (d.k+1) kb,.int .i64 0])/\Exs w' gb (d.k+1) kb Y (stW d.c d.n d.DI d.DO) (stM d.c d.n d.DI d.DO)/\Below q.heap.size q w'):=fun q hq=>by
  have:=tRun_calls d.c h.ok.s a d.n cap X d.DI d.DO (d.k:Int) q (h.below hq).exs
  rw [hEX,hRN] at this
  exact this
 have hF:courseI d.c d.n X d.DI d.DO=0:=by
  unfold runE at hEX
  by_cases e:courseI d.c d.n X d.DI d.DO=0
  ·exact e
  ·rw [if_neg e] at hEX; exact absurd hEX e
 obtain ⟨⟨i1,i4⟩,⟨j1,j4⟩,⟨o1,o4⟩,_⟩:=Zal h.ok.c
 obtain ⟨zi,hzi⟩:∃ zi:Nat,z=(zi:Int):=⟨z.toNat,by omega⟩
 have hzn:zi < d.n:=by omega
 have hex:=exB_is (ZcG (Zbr hF).2.2.2 hzn)
 obtain ⟨I,hI⟩:∃ I:Nat,d.c.i=(I:Int):=⟨d.c.i.toNat,by omega⟩
 obtain ⟨H,hH⟩:∃ I:Nat,d.c.h=(I:Int):=⟨d.c.h.toNat,by omega⟩
 obtain ⟨O,hO⟩:∃ I:Nat,d.c.o=(I:Int):=⟨d.c.o.toNat,by omega⟩
 have HV:Hid (lossV z d=lossI (cutD I H O (stW d.c d.n d.DI d.DO d.k)) (d.DI zi) (d.DO zi) I H O):=by
  show _=_
  unfold lossV
  rw [hI,hH,hO,hzi]
  rfl
 have hsz:(sizeN d.c).toNat=H * I+H+O * H+O:=by
  unfold sizeN
  rw [hI,hH,hO]
  have:((H:Int) * (I:Int)+(H:Int)+(O:Int) * (H:Int)+(O:Int))=((H * I+H+O * H+O:Nat):Int):=by push_cast; rfl
  rw [this,Int.toNat_natCast]
 have hSL:(stW d.c d.n d.DI d.DO d.k).length=H * I+H+O * H+O:=by rw [← hsz]; exact (ZcH d.c d.n d.DI d.DO _ d.k).1
 have hSR:rightB (stW d.c d.n d.DI d.DO d.k)=true:=(Zco d.c d.n d.DI d.DO _ d.k).1
 have hRD:=cutD_right hSL hSR
 obtain ⟨xn,xm,_,_⟩:=hex
 have hxn:(X zi).n=I:=by rw [hI] at xn; omega
 have hxm:(X zi).m=O:=by rw [hO] at xm; omega
 have HSH:Hid (∀ q (aa:Option Addr) (n c:Nat),Lst q aa n c (stW d.c d.n d.DI d.DO d.k)->n=H * I+H+O * H+O/\Calls Tryz.prog 59 #[.int .i64 I,.int .i64 H,.int .i64 O,.slice aa n c] q fun e w'=>∃ g1 g2 g3 g4:Nat,e=.returned (.tuple #[(rpup I H O (some ⟨g1,0,none⟩) (H * I) (some ⟨g2,0,none⟩) (O * H) (some ⟨g3,0,none⟩) H (some ⟨g4,0,none⟩) O).val,.int .i64 0])/\(q.heap.size<=g1/\q.heap.size<=g2/\q.heap.size<=g3/\q.heap.size<=g4)/\InPup w' (rpup I H O (some ⟨g1,0,none⟩) (H * I) (some ⟨g2,0,none⟩) (O * H) (some ⟨g3,0,none⟩) H (some ⟨g4,0,none⟩) O) (cutD I H O (stW d.c d.n d.DI d.DO d.k))/\Below q.heap.size q w'):=fun q aa n c hl=>⟨by rw [← hl.len]; exact hSL,by
  refine (shape_own I H O aa n c _ q hl (by omega) (by omega) (by omega) (by omega) (by omega) (by omega) (by rw [← hl.len]; exact hSL) hSR).mono ?_
  rintro e w' ⟨g1,g2,g3,g4,rfl,hg,_,hp,hb⟩
  exact ⟨g1,g2,g3,g4,rfl,⟨by omega,by omega,by omega,by omega⟩,hp,hb⟩⟩
 have HLS:Hid (∀ q (a1 a2 b1 b2:Option Addr),Below w.heap.size w q->InPup q (rpup I H O a1 (H * I) a2 (O * H) b1 H b2 O) (cutD I H O (stW d.c d.n d.DI d.DO d.k))->Calls Tryz.prog 60 #[(rpup I H O a1 (H * I) a2 (O * H) b1 H b2 O).val,.agg #[.slice (X zi).a I (X zi).k,.slice (X zi).b O (X zi).t]] q fun e w'=>e=.returned (.tuple #[.int .i64 (lossV z d),.int .i64 0])/\Below q.heap.size q w'):=fun q a1 a2 b1 b2 hq hp=>by
  rw [HV.out]
  have l:=(h.below hq).ex zi hzn
  have li:=l.i
  have lo:=l.o
  rw [hxn] at li
  rw [hxm] at lo
  exact ploss_good I H O a1 (H * I) a2 (O * H) b1 H b2 O _ _ _ _ _ _ _ q hp li lo hRD (by omega) (by omega) (by omega) (by omega) (by omega) (by omega)
 obtain ⟨ga,oa,ea,_⟩:=h.exs.at hzn
 have HEA:Hid (a=some ⟨ga,oa,none⟩):=ea
 have KX:Hid (∀ q,Below w.heap.size w q->q.cell? ⟨ga,oa+zi * 2,none⟩=some (.slice (X zi).a I (X zi).k)/\q.cell? ⟨ga,oa+zi * 2+1,none⟩=some (.slice (X zi).b O (X zi).t)):=fun q hq=>by
  obtain ⟨g2,o2,e,c0,c1,_⟩:=(h.below hq).exs.at hzn
  rw [ea] at e
  simp only [Option.some.injEq,Addr.mk.injEq,and_true] at e
  obtain ⟨rfl,rfl⟩:=e
  rw [hxn] at c0
  rw [hxm] at c1
  exact ⟨c0,c1⟩
 have KC:Hid (∀ q,Below w.heap.size w q->q.cell? ⟨b,0,none⟩=some (.int .i64 d.c.i)/\q.cell? ⟨b,1,none⟩=some (.int .i64 d.c.h)/\q.cell? ⟨b,2,none⟩=some (.int .i64 d.c.o)/\q.cell? ⟨b,3,none⟩=some (.int .u64 d.c.seed)/\q.cell? ⟨b,4,none⟩=some (.int .i64 d.c.batch)/\q.cell? ⟨b,5,none⟩=some (.int .i64 d.c.steps)/\q.cell? ⟨b,6,none⟩=some (.int .i64 d.c.rate)/\q.cell? ⟨b,7,none⟩=some (.int .i64 d.c.decay)/\q.cell? ⟨b,8,none⟩=some (.int .i64 d.c.how)/\q.cell? ⟨b,9,none⟩=some (.int .i64 d.c.keep)/\q.cell? ⟨b,10,none⟩=some (.int .i64 d.c.clip)/\q.cell? ⟨b,11,none⟩=some (.slice a d.n cap)):=fun q hq=>⟨(h.below hq).cells.1.c0,(h.below hq).cells.1.c1,(h.below hq).cells.1.c2,(h.below hq).cells.1.c3,(h.below hq).cells.1.c4,(h.below hq).cells.1.c5,(h.below hq).cells.1.c6,(h.below hq).cells.1.c7,(h.below hq).cells.1.c8,(h.below hq).cells.1.c9,(h.below hq).cells.1.c10,(h.below hq).cells.2.1⟩
 have KC3:Hid (∀ q,Below w.heap.size w q->q.cell? ⟨b,0,none⟩=some (.int .i64 I)/\q.cell? ⟨b,1,none⟩=some (.int .i64 H)/\q.cell? ⟨b,2,none⟩=some (.int .i64 O)/\q.cell? ⟨b,11,none⟩=some (.slice a d.n cap)):=fun q hq=>by
  obtain ⟨y0,y1,y2,_,_,_,_,_,_,_,_,y11⟩:=KC.out q hq
  rw [hI] at y0
  rw [hH] at y1
  rw [hO] at y2
  exact ⟨y0,y1,y2,y11⟩
 generalize stW d.c d.n d.DI d.DO=SW at *
 generalize stM d.c d.n d.DI d.DO=SM at *
 obtain ⟨k,HKK⟩:=nm (α:=Nat) (d.k)
 rw [HKK.out] at HRG TK HSH HLS
 have h1:¬ (d.n:Int)<=z:=by omega
 have h2:¬ z < 0:=by omega
 generalize X zi=x at *
 obtain ⟨xa,xn',xk,xb,xm',xt⟩:=x
 dsimp only at HLS KX
 obtain ⟨LV,HLVV⟩:=nm (lossV z d)
 rw [HLVV.out] at HLS HLV
 clear ea hEX hRN hF hSL hSR hRD xn xm hxn hxm h hE hI hH hO HV i1 i4 j1 j4 o1 o4 hsz
 subst hzi
 have h3:¬ (d.n:Int)<=(zi:Int):=h1
 have h4:(zi:Int) < (d.n:Int):=by omega
 have h5:(0:Int)<=(zi:Int):=by omega
 simp only [Cfg.val,Cfg.cells] at HRG
 simp only [Pup.val,Pup.cells,rpup] at HSH HLS
 go_enter Tryz.func36,Tryz.ntmps36
 go_wp2_with (go_at_call 57; refine TK.mono ?_; rintro e w1 ⟨rfl,hw1⟩; have hd1:Below w.heap.size w w1.drew:=hw1.drew)
 refine wp_region_held_drew (S:=fun q=>q.cell? ⟨b,0,none⟩=some (.int .i64 d.c.i)/\q.cell? ⟨b,1,none⟩=some (.int .i64 d.c.h)/\q.cell? ⟨b,2,none⟩=some (.int .i64 d.c.o)/\q.cell? ⟨b,3,none⟩=some (.int .u64 d.c.seed)/\q.cell? ⟨b,4,none⟩=some (.int .i64 d.c.batch)/\q.cell? ⟨b,5,none⟩=some (.int .i64 d.c.steps)/\q.cell? ⟨b,6,none⟩=some (.int .i64 d.c.rate)/\q.cell? ⟨b,7,none⟩=some (.int .i64 d.c.decay)/\q.cell? ⟨b,8,none⟩=some (.int .i64 d.c.how)/\q.cell? ⟨b,9,none⟩=some (.int .i64 d.c.keep)/\q.cell? ⟨b,10,none⟩=some (.int .i64 d.c.clip)/\q.cell? ⟨b,11,none⟩=some (.slice a d.n cap)) (by kernel_rfl) (by with_reducible exact (KC.out _ hd1)) (fun hHeld=>?_)
 refine tk 0 (h:=?_)
 refine tk 1 (h:=?_)
 refine tk 2 (h:=?_)
 refine tk 3 (h:=?_)
 refine tk 4 (h:=?_)
 refine tk 5 (h:=?_)
 refine tk 6 (h:=?_)
 refine tk 7 (h:=?_)
 refine tk 8 (h:=?_)
 refine rd 9 (h:=fun K hK=>?_)
 clear hHeld
 go_simp
 (go_at_call 58; refine (HRG.out _ hd1).mono ?_; rintro e w2 ⟨gb,kb,Y,rfl,hY,bel2⟩; have hd2:=hd1.trans (bel2.mono hd1.size); have Z2:=KC.out _ hd2)
 go_wp2_with fail
 refine hK.out _ _ ?_ (fun hHeld=>?_)
 ·with_reducible exact Z2
 clear hK K
 try simp only [Act.put,List.setIfInBounds_toArray,List.set_cons_zero,List.set_cons_succ]
 refine tk 10 (h:=?_)
 refine tk 11 (h:=?_)
 refine tk 12 (h:=?_)
 refine tk 13 (h:=?_)
 refine tk 14 (h:=?_)
 refine wpAnyH_done (by kernel_rfl) ?_ _
 obtain ⟨gy,oy,rfl,cy,_,iny⟩:=hY.at (i:=k) (by omega)
 obtain ⟨hyn,_⟩:=HSH.out _ _ _ _ iny.i
 have kn1:(k:Int) < (k:Int)+1:=by omega
 have kn2:(0:Int)<=(k:Int):=by omega
 have kn3:k < k+1:=by omega
 clear Z2 c11 HRG TK KC
 have eA:=HEA.out
 subst eA
 have T2:Below w2.heap.size w2 w2:=br
 have hle2:w2.heap.size<=w2.heap.size:=nr
 have hdr2:Below w2.heap.size w2 w2.drew:=T2.drew
 have HS7:Hid (∀ q,Below w2.heap.size w2 q->Calls Tryz.prog 59 #[.int .i64 I,.int .i64 H,.int .i64 O,.slice (Y k).a (Y k).n (Y k).k] q fun e w'=>∃ g1 g2 g3 g4:Nat,e=.returned (.tuple #[.agg #[.int .i64 (H:Nat),.int .i64 (I:Nat),.slice (some ⟨g1,0,none⟩) (H * I) (H * I),.int .i64 (O:Nat),.int .i64 (H:Nat),.slice (some ⟨g2,0,none⟩) (O * H) (O * H),.slice (some ⟨g3,0,none⟩) H H,.slice (some ⟨g4,0,none⟩) O O],.int .i64 0])/\(q.heap.size<=g1/\q.heap.size<=g2/\q.heap.size<=g3/\q.heap.size<=g4)/\InPup w' (rpup I H O (some ⟨g1,0,none⟩) (H * I) (some ⟨g2,0,none⟩) (O * H) (some ⟨g3,0,none⟩) H (some ⟨g4,0,none⟩) O) (cutD I H O (SW k))/\Below q.heap.size q w'):=fun q hq=>(HSH.out q _ _ _ (iny.i.below hq nr)).2
 have KS7:Hid (∀ q,Below w2.heap.size w2 q->q.cell? ⟨b,0,none⟩=some (.int .i64 I)/\q.cell? ⟨b,1,none⟩=some (.int .i64 H)/\q.cell? ⟨b,2,none⟩=some (.int .i64 O)/\q.cell? ⟨gy,oy+k * 2,none⟩=some (.slice (Y k).a (Y k).n (Y k).k)):=fun q hq=>by
  obtain ⟨y0,y1,y2,_⟩:=KC3.out q (hd2.trans (hq.mono hd2.size))
  exact ⟨y0,y1,y2,(hq.cell (p:=⟨gy,oy+k * 2,none⟩) (Zas cy)).trans cy⟩
 generalize Y k=y at *
 obtain ⟨ya,yn,yk,yb,ym,yt⟩:=y
 dsimp only at HS7 KS7
 clear hY cy iny HSH hyn
 go_wp2_with fail
 refine wp_region_held_drew (S:=fun q=>q.cell? ⟨b,0,none⟩=some (.int .i64 I)/\q.cell? ⟨b,1,none⟩=some (.int .i64 H)/\q.cell? ⟨b,2,none⟩=some (.int .i64 O)/\q.cell? ⟨gy,oy+k * 2,none⟩=some (.slice ya yn yk)) (by kernel_rfl) (by with_reducible exact (KS7.out _ hdr2)) (fun hHeld=>?_)
 refine tk 0 (h:=?_)
 refine tk 1 (h:=?_)
 refine tk 2 (h:=?_)
 refine tk 3 (h:=?_)
 refine tk 4 (h:=?_)
 refine tk 5 (h:=?_)
 refine tk 6 (h:=?_)
 refine tk 7 (h:=?_)
 refine tk 8 (h:=?_)
 refine tk 9 (h:=?_)
 refine tk 10 (h:=?_)
 refine tk 11 (h:=?_)
 refine tk 12 (h:=?_)
 refine tk 13 (h:=?_)
 refine tk 14 (h:=?_)
 refine tk 15 (h:=?_)
 refine tk 16 (h:=?_)
 refine tk 17 (h:=?_)
 refine tk 18 (h:=?_)
 refine tk 19 (h:=?_)
 refine wpAnyH_ready (rs:=[20,24]) (by kernel_rfl) (by simp) ?_
 refine AllReadyH.cons (o:=_) rfl (fun K hK=>?_) (AllReadyH.cons (o:=_) rfl (fun K hK=>?_) AllReadyH.nil)
 ·clear hHeld
  go_simp
  (go_at_call 59; refine (HS7.out _ hdr2).mono ?_; rintro e w3 ⟨g1,g2,g3,g4,rfl,hg,hp,hw3⟩; have hb3:Below w2.heap.size w2 w3:=hdr2.trans hw3; have Z3:=KS7.out _ hb3)
  go_wp2_with fail
  refine hK.out _ _ ?_ (fun hHeld=>?_)
  ·with_reducible exact Z3
  clear hK K
  try simp only [Act.put,List.setIfInBounds_toArray,List.set_cons_zero,List.set_cons_succ]
  refine tk 21 (h:=?_)
  refine tk 22 (h:=?_)
  refine tk 23 (h:=?_)
  refine rd 24 (h:=fun K hK=>?_)
  clear hHeld
  go_simp
  refine hK.out _ _ ?_ (fun hHeld=>?_)
  ·with_reducible exact (KS7.out _ (alS hb3 hle2))
  clear hK K
  try simp only [Act.put,List.setIfInBounds_toArray,List.set_cons_zero,List.set_cons_succ]
  refine rd 25 (h:=fun K hK=>?_)
  clear hHeld
  go_simp
  refine hK.out _ _ ?_ (fun hHeld=>?_)
  ·with_reducible exact (KS7.out _ (alS hb3 hle2))
  clear hK K
  try simp only [Act.put,List.setIfInBounds_toArray]
  refine tk 26 (h:=?_)
  refine wpAnyH_done (by kernel_rfl) ?_ _
  have BX:=Zag (ZaF w3 (.int .i64 (H:Nat)) (.int .i64 (I:Nat)) (.slice (some ⟨g1,0,none⟩) (H * I) (H * I)) (.int .i64 (O:Nat)) (.int .i64 (H:Nat)) (.slice (some ⟨g2,0,none⟩) (O * H) (O * H)) (.slice (some ⟨g3,0,none⟩) H H) (.slice (some ⟨g4,0,none⟩) O O) 102)
  have BF:Below w2.heap.size w2 (w3.alloc (.cells #[.int .i64 (H:Nat),.int .i64 (I:Nat),.slice (some ⟨g1,0,none⟩) (H * I) (H * I),.int .i64 (O:Nat),.int .i64 (H:Nat),.slice (some ⟨g2,0,none⟩) (O * H) (O * H),.slice (some ⟨g3,0,none⟩) H H,.slice (some ⟨g4,0,none⟩) O O] 102)):=(hb3.alloc hb3.size _)
  have hpF:InPup (w3.alloc (.cells #[.int .i64 (H:Nat),.int .i64 (I:Nat),.slice (some ⟨g1,0,none⟩) (H * I) (H * I),.int .i64 (O:Nat),.int .i64 (H:Nat),.slice (some ⟨g2,0,none⟩) (O * H) (O * H),.slice (some ⟨g3,0,none⟩) H H,.slice (some ⟨g4,0,none⟩) O O] 102)) (rpup I H O (some ⟨g1,0,none⟩) (H * I) (some ⟨g2,0,none⟩) (O * H) (some ⟨g3,0,none⟩) H (some ⟨g4,0,none⟩) O) (cutD I H O (SW k)):=hp.below (Zac _ _) nr
  obtain ⟨WF,HWF⟩:∃ q,Hid (q=(w3.alloc (.cells #[.int .i64 (H:Nat),.int .i64 (I:Nat),.slice (some ⟨g1,0,none⟩) (H * I) (H * I),.int .i64 (O:Nat),.int .i64 (H:Nat),.slice (some ⟨g2,0,none⟩) (O * H) (O * H),.slice (some ⟨g3,0,none⟩) H H,.slice (some ⟨g4,0,none⟩) O O] 102))):=⟨_,rfl⟩
  rw [← HWF.out] at BX BF hpF
  rw [← HWF.out]
  have hBW:=hd2.trans (BF.mono hd2.size)
  have hdW:Below WF.heap.size WF WF.drew:=br.drew
  have hdF:Below w.heap.size w WF.drew:=hBW.drew
  have hpb:=World.block_lt_of_cell? _ _ BX.c0
  have KS8:Hid (∀ q,Below WF.heap.size WF q->q.cell? ⟨w3.heap.size,0,none⟩=some (.int .i64 (H:Nat))/\q.cell? ⟨w3.heap.size,1,none⟩=some (.int .i64 (I:Nat))/\q.cell? ⟨w3.heap.size,2,none⟩=some (.slice (some ⟨g1,0,none⟩) (H * I) (H * I))/\q.cell? ⟨w3.heap.size,3,none⟩=some (.int .i64 (O:Nat))/\q.cell? ⟨w3.heap.size,4,none⟩=some (.int .i64 (H:Nat))/\q.cell? ⟨w3.heap.size,5,none⟩=some (.slice (some ⟨g2,0,none⟩) (O * H) (O * H))/\q.cell? ⟨w3.heap.size,6,none⟩=some (.slice (some ⟨g3,0,none⟩) H H)/\q.cell? ⟨w3.heap.size,7,none⟩=some (.slice (some ⟨g4,0,none⟩) O O)/\q.cell? ⟨b,11,none⟩=some (.slice (some ⟨ga,oa,none⟩) d.n cap)/\q.cell? ⟨ga,oa+zi * 2,none⟩=some (.slice xa I xk)/\q.cell? ⟨ga,oa+zi * 2+1,none⟩=some (.slice xb O xt)):=fun q hq=>⟨(hq.cell (p:=⟨w3.heap.size,0,none⟩) hpb).trans BX.c0,(hq.cell (p:=⟨w3.heap.size,1,none⟩) hpb).trans BX.c1,(hq.cell (p:=⟨w3.heap.size,2,none⟩) hpb).trans BX.c2,(hq.cell (p:=⟨w3.heap.size,3,none⟩) hpb).trans BX.c3,(hq.cell (p:=⟨w3.heap.size,4,none⟩) hpb).trans BX.c4,(hq.cell (p:=⟨w3.heap.size,5,none⟩) hpb).trans BX.c5,(hq.cell (p:=⟨w3.heap.size,6,none⟩) hpb).trans BX.c6,(hq.cell (p:=⟨w3.heap.size,7,none⟩) hpb).trans BX.c7,(KC3.out _ (hBW.trans (hq.mono hBW.size))).2.2.2,(KX.out _ (hBW.trans (hq.mono hBW.size))).1,(KX.out _ (hBW.trans (hq.mono hBW.size))).2⟩
  clear HWF Z3 hHeld
  go_wp2_with fail
  refine wp_region_held_drew (S:=fun q=>q.cell? ⟨w3.heap.size,0,none⟩=some (.int .i64 (H:Nat))/\q.cell? ⟨w3.heap.size,1,none⟩=some (.int .i64 (I:Nat))/\q.cell? ⟨w3.heap.size,2,none⟩=some (.slice (some ⟨g1,0,none⟩) (H * I) (H * I))/\q.cell? ⟨w3.heap.size,3,none⟩=some (.int .i64 (O:Nat))/\q.cell? ⟨w3.heap.size,4,none⟩=some (.int .i64 (H:Nat))/\q.cell? ⟨w3.heap.size,5,none⟩=some (.slice (some ⟨g2,0,none⟩) (O * H) (O * H))/\q.cell? ⟨w3.heap.size,6,none⟩=some (.slice (some ⟨g3,0,none⟩) H H)/\q.cell? ⟨w3.heap.size,7,none⟩=some (.slice (some ⟨g4,0,none⟩) O O)/\q.cell? ⟨b,11,none⟩=some (.slice (some ⟨ga,oa,none⟩) d.n cap)/\q.cell? ⟨ga,oa+zi * 2,none⟩=some (.slice xa I xk)/\q.cell? ⟨ga,oa+zi * 2+1,none⟩=some (.slice xb O xt)) (by kernel_rfl) (by with_reducible exact (KS8.out _ hdW)) (fun hHeld=>?_)
  refine tk 0 (h:=?_)
  refine tk 1 (h:=?_)
  refine tk 2 (h:=?_)
  refine tk 3 (h:=?_)
  refine tk 4 (h:=?_)
  refine tk 5 (h:=?_)
  refine tk 6 (h:=?_)
  refine tk 7 (h:=?_)
  refine rd 8 (h:=fun K hK=>?_)
  clear hHeld
  go_simp
  (go_at_call 60; refine (HLS.out _ (some ⟨g1,0,none⟩) (some ⟨g2,0,none⟩) (some ⟨g3,0,none⟩) (some ⟨g4,0,none⟩) hdF (hpF.below br.drew nr)).mono ?_; rintro e w6 ⟨rfl,hw6⟩; have hd6:=hdF.trans (hw6.mono hdF.size); have Z6:=KS8.out _ (hdW.trans hw6))
  go_wp2_with fail
  refine hK.out _ _ ?_ (fun hHeld=>?_)
  ·with_reducible exact Z6
  clear hK K
  try simp only [Act.put,List.setIfInBounds_toArray,List.set_cons_zero,List.set_cons_succ]
  refine tk 9 (h:=?_)
  refine tk 10 (h:=?_)
  refine tk 11 (h:=?_)
  refine tk 12 (h:=?_)
  refine wpAnyH_done (by kernel_rfl) ?_ _
  go_wp2_with fail
  go_ret2
  exact ⟨⟨LV,by rw [HE.out]; rfl,fun _=>HLVV.out.symm,HLV.out.1,HLV.out.2⟩,hd6⟩
 ·clear hHeld
  go_simp
  refine hK.out _ _ ?_ (fun hHeld=>?_)
  ·with_reducible exact (KS7.out _ (Below.drew (alS T2 hle2)))
  clear hK K
  try simp only [Act.put,List.setIfInBounds_toArray,List.set_cons_zero,List.set_cons_succ]
  refine rd 20 (h:=fun K hK=>?_)
  clear hHeld
  go_simp
  (go_at_call 59; refine (HS7.out _ (Below.drew (alS T2 hle2))).mono ?_; rintro e w3 ⟨g1,g2,g3,g4,rfl,hg,hp,hw3⟩; have hb3:Below w2.heap.size w2 w3:=(Below.drew (alS T2 hle2)).trans (hw3.mono (by simp)); have Z3:=KS7.out _ hb3; have R4:(w2.alloc (.cells #[.int .i64 0,.int .i64 0,.slice none 0 0,.int .i64 0,.int .i64 0,.slice none 0 0,.slice none 0 0,.slice none 0 0] 102)).drew.rowIs w2.heap.size 102 8 (fn8 (.int .i64 0) (.int .i64 0) (.slice none 0 0) (.int .i64 0) (.int .i64 0) (.slice none 0 0) (.slice none 0 0) (.slice none 0 0)):=ZaF w2 (.int .i64 0) (.int .i64 0) (.slice none 0 0) (.int .i64 0) (.int .i64 0) (.slice none 0 0) (.slice none 0 0) (.slice none 0 0) 102; have R5:=R4.of_block (hw3.block _ R4.lt); obtain ⟨t0,t1,t2,t3,t4,t5,t6,t7⟩:=Zag R5; have f0:=R5.frozen 0; have f1:=R5.frozen 1; have f2:=R5.frozen 2; have f3:=R5.frozen 3; have f4:=R5.frozen 4; have f5:=R5.frozen 5; have f6:=R5.frozen 6; have f7:=R5.frozen 7)
  go_wp2_with fail
  refine hK.out _ _ ?_ (fun hHeld=>?_)
  ·with_reducible exact Z3
  clear hK K
  try simp only [Act.put,List.setIfInBounds_toArray,List.set_cons_zero,List.set_cons_succ]
  refine tk 21 (h:=?_)
  refine tk 22 (h:=?_)
  refine tk 23 (h:=?_)
  refine rd 25 (h:=fun K hK=>?_)
  clear hHeld
  go_simp
  refine hK.out _ _ ?_ (fun hHeld=>?_)
  ·with_reducible exact (KS7.out _ (setS (setS (setS (setS (setS (setS (setS (setS hb3 hle2) hle2) hle2) hle2) hle2) hle2) hle2) hle2))
  clear hK K
  try simp only [Act.put,List.setIfInBounds_toArray]
  refine tk 26 (h:=?_)
  refine wpAnyH_done (by kernel_rfl) ?_ _
  have BX:=Zag (Zbm R5 (.int .i64 (H:Nat)) (.int .i64 (I:Nat)) (.slice (some ⟨g1,0,none⟩) (H * I) (H * I)) (.int .i64 (O:Nat)) (.int .i64 (H:Nat)) (.slice (some ⟨g2,0,none⟩) (O * H) (O * H)) (.slice (some ⟨g3,0,none⟩) H H) (.slice (some ⟨g4,0,none⟩) O O))
  have BF:Below w2.heap.size w2 ((((((((w3.setCell ⟨w2.heap.size,0,none⟩ (.int .i64 (H:Nat))).setCell ⟨w2.heap.size,1,none⟩ (.int .i64 (I:Nat))).setCell ⟨w2.heap.size,2,none⟩ (.slice (some ⟨g1,0,none⟩) (H * I) (H * I))).setCell ⟨w2.heap.size,3,none⟩ (.int .i64 (O:Nat))).setCell ⟨w2.heap.size,4,none⟩ (.int .i64 (H:Nat))).setCell ⟨w2.heap.size,5,none⟩ (.slice (some ⟨g2,0,none⟩) (O * H) (O * H))).setCell ⟨w2.heap.size,6,none⟩ (.slice (some ⟨g3,0,none⟩) H H)).setCell ⟨w2.heap.size,7,none⟩ (.slice (some ⟨g4,0,none⟩) O O)):=(setS (setS (setS (setS (setS (setS (setS (setS hb3 hle2) hle2) hle2) hle2) hle2) hle2) hle2) hle2)
  have hpF:InPup ((((((((w3.setCell ⟨w2.heap.size,0,none⟩ (.int .i64 (H:Nat))).setCell ⟨w2.heap.size,1,none⟩ (.int .i64 (I:Nat))).setCell ⟨w2.heap.size,2,none⟩ (.slice (some ⟨g1,0,none⟩) (H * I) (H * I))).setCell ⟨w2.heap.size,3,none⟩ (.int .i64 (O:Nat))).setCell ⟨w2.heap.size,4,none⟩ (.int .i64 (H:Nat))).setCell ⟨w2.heap.size,5,none⟩ (.slice (some ⟨g2,0,none⟩) (O * H) (O * H))).setCell ⟨w2.heap.size,6,none⟩ (.slice (some ⟨g3,0,none⟩) H H)).setCell ⟨w2.heap.size,7,none⟩ (.slice (some ⟨g4,0,none⟩) O O)) (rpup I H O (some ⟨g1,0,none⟩) (H * I) (some ⟨g2,0,none⟩) (O * H) (some ⟨g3,0,none⟩) H (some ⟨g4,0,none⟩) O) (cutD I H O (SW k)):=by have hsz4:w2.heap.size < w3.heap.size:=R5.lt; have hg5:w2.heap.size+1<=g1/\w2.heap.size+1<=g2/\w2.heap.size+1<=g3/\w2.heap.size+1<=g4:=by { simpa using hg }; exact inPup_set8 hp (by omega) (by omega) (by omega) (by omega) _ _ _ _ _ _ _ _
  obtain ⟨WF,HWF⟩:∃ q,Hid (q=((((((((w3.setCell ⟨w2.heap.size,0,none⟩ (.int .i64 (H:Nat))).setCell ⟨w2.heap.size,1,none⟩ (.int .i64 (I:Nat))).setCell ⟨w2.heap.size,2,none⟩ (.slice (some ⟨g1,0,none⟩) (H * I) (H * I))).setCell ⟨w2.heap.size,3,none⟩ (.int .i64 (O:Nat))).setCell ⟨w2.heap.size,4,none⟩ (.int .i64 (H:Nat))).setCell ⟨w2.heap.size,5,none⟩ (.slice (some ⟨g2,0,none⟩) (O * H) (O * H))).setCell ⟨w2.heap.size,6,none⟩ (.slice (some ⟨g3,0,none⟩) H H)).setCell ⟨w2.heap.size,7,none⟩ (.slice (some ⟨g4,0,none⟩) O O))):=⟨_,rfl⟩
  rw [← HWF.out] at BX BF hpF
  rw [← HWF.out]
  have hBW:=hd2.trans (BF.mono hd2.size)
  have hdW:Below WF.heap.size WF WF.drew:=br.drew
  have hdF:Below w.heap.size w WF.drew:=hBW.drew
  have hpb:=World.block_lt_of_cell? _ _ BX.c0
  have KS8:Hid (∀ q,Below WF.heap.size WF q->q.cell? ⟨w2.heap.size,0,none⟩=some (.int .i64 (H:Nat))/\q.cell? ⟨w2.heap.size,1,none⟩=some (.int .i64 (I:Nat))/\q.cell? ⟨w2.heap.size,2,none⟩=some (.slice (some ⟨g1,0,none⟩) (H * I) (H * I))/\q.cell? ⟨w2.heap.size,3,none⟩=some (.int .i64 (O:Nat))/\q.cell? ⟨w2.heap.size,4,none⟩=some (.int .i64 (H:Nat))/\q.cell? ⟨w2.heap.size,5,none⟩=some (.slice (some ⟨g2,0,none⟩) (O * H) (O * H))/\q.cell? ⟨w2.heap.size,6,none⟩=some (.slice (some ⟨g3,0,none⟩) H H)/\q.cell? ⟨w2.heap.size,7,none⟩=some (.slice (some ⟨g4,0,none⟩) O O)/\q.cell? ⟨b,11,none⟩=some (.slice (some ⟨ga,oa,none⟩) d.n cap)/\q.cell? ⟨ga,oa+zi * 2,none⟩=some (.slice xa I xk)/\q.cell? ⟨ga,oa+zi * 2+1,none⟩=some (.slice xb O xt)):=fun q hq=>⟨(hq.cell (p:=⟨w2.heap.size,0,none⟩) hpb).trans BX.c0,(hq.cell (p:=⟨w2.heap.size,1,none⟩) hpb).trans BX.c1,(hq.cell (p:=⟨w2.heap.size,2,none⟩) hpb).trans BX.c2,(hq.cell (p:=⟨w2.heap.size,3,none⟩) hpb).trans BX.c3,(hq.cell (p:=⟨w2.heap.size,4,none⟩) hpb).trans BX.c4,(hq.cell (p:=⟨w2.heap.size,5,none⟩) hpb).trans BX.c5,(hq.cell (p:=⟨w2.heap.size,6,none⟩) hpb).trans BX.c6,(hq.cell (p:=⟨w2.heap.size,7,none⟩) hpb).trans BX.c7,(KC3.out _ (hBW.trans (hq.mono hBW.size))).2.2.2,(KX.out _ (hBW.trans (hq.mono hBW.size))).1,(KX.out _ (hBW.trans (hq.mono hBW.size))).2⟩
  clear HWF Z3 hHeld
  go_wp2_with fail
  refine wp_region_held_drew (S:=fun q=>q.cell? ⟨w2.heap.size,0,none⟩=some (.int .i64 (H:Nat))/\q.cell? ⟨w2.heap.size,1,none⟩=some (.int .i64 (I:Nat))/\q.cell? ⟨w2.heap.size,2,none⟩=some (.slice (some ⟨g1,0,none⟩) (H * I) (H * I))/\q.cell? ⟨w2.heap.size,3,none⟩=some (.int .i64 (O:Nat))/\q.cell? ⟨w2.heap.size,4,none⟩=some (.int .i64 (H:Nat))/\q.cell? ⟨w2.heap.size,5,none⟩=some (.slice (some ⟨g2,0,none⟩) (O * H) (O * H))/\q.cell? ⟨w2.heap.size,6,none⟩=some (.slice (some ⟨g3,0,none⟩) H H)/\q.cell? ⟨w2.heap.size,7,none⟩=some (.slice (some ⟨g4,0,none⟩) O O)/\q.cell? ⟨b,11,none⟩=some (.slice (some ⟨ga,oa,none⟩) d.n cap)/\q.cell? ⟨ga,oa+zi * 2,none⟩=some (.slice xa I xk)/\q.cell? ⟨ga,oa+zi * 2+1,none⟩=some (.slice xb O xt)) (by kernel_rfl) (by with_reducible exact (KS8.out _ hdW)) (fun hHeld=>?_)
  refine tk 0 (h:=?_)
  refine tk 1 (h:=?_)
  refine tk 2 (h:=?_)
  refine tk 3 (h:=?_)
  refine tk 4 (h:=?_)
  refine tk 5 (h:=?_)
  refine tk 6 (h:=?_)
  refine tk 7 (h:=?_)
  refine rd 8 (h:=fun K hK=>?_)
  clear hHeld
  go_simp
  (go_at_call 60; refine (HLS.out _ (some ⟨g1,0,none⟩) (some ⟨g2,0,none⟩) (some ⟨g3,0,none⟩) (some ⟨g4,0,none⟩) hdF (hpF.below br.drew nr)).mono ?_; rintro e w6 ⟨rfl,hw6⟩; have hd6:=hdF.trans (hw6.mono hdF.size); have Z6:=KS8.out _ (hdW.trans hw6))
  go_wp2_with fail
  refine hK.out _ _ ?_ (fun hHeld=>?_)
  ·with_reducible exact Z6
  clear hK K
  try simp only [Act.put,List.setIfInBounds_toArray,List.set_cons_zero,List.set_cons_succ]
  refine tk 9 (h:=?_)
  refine tk 10 (h:=?_)
  refine tk 11 (h:=?_)
  refine tk 12 (h:=?_)
  refine wpAnyH_done (by kernel_rfl) ?_ _
  go_wp2_with fail
  go_ret2
  exact ⟨⟨LV,by rw [HE.out]; rfl,fun _=>HLVV.out.symm,HLV.out.1,HLV.out.2⟩,hd6⟩
end
theorem rshape_at (I H O:Nat) (a:Option Addr) (len cap:Nat) (xs:List Int) (w:World) (ha:Lst w a len cap xs) (i1:1<=I) (i2:I<=4) (j1:1<=H) (j2:H<=4) (o1:1<=O) (o2:O<=4) (hlen:len=H * I+H+O * H+O) :
  Calls Tryz.prog 69 #[.int .i64 I,.int .i64 H,.int .i64 O,.slice a len cap] w fun e w'=>∃ a1 k1 a2 k2 b1 t1 b2 t2,e=.returned ((rpup I H O a1 k1 a2 k2 b1 t1 b2 t2).val)/\(∀ W0,Lst W0 a len cap xs->InPup W0 (rpup I H O a1 k1 a2 k2 b1 t1 b2 t2) (cutD I H O xs))/\Below w.heap.size w w':=by
 have hal:=(Below.refl w.heap.size w).alloc nr (.cells #[.int .i64 0,.int .i64 0,.slice none 0 0,.int .i64 0,.int .i64 0,.slice none 0 0,.slice none 0 0,.slice none 0 0] 102)
 have hrow:=ZaF w (.int .i64 0) (.int .i64 0) (.slice none 0 0) (.int .i64 0) (.int .i64 0) (.slice none 0 0) (.slice none 0 0) (.slice none 0 0) 102
 have s1:=Zae j2 i2
 have s2:=Zae o2 j2
 have s3:0 < H * I:=Nat.mul_pos (by omega) (by omega)
 have s4:0 < O * H:=Nat.mul_pos (by omega) (by omega)
 have hlc:=ha.cap
 have z1:(H:Int) * (I:Int)=((H * I:Nat):Int):=by push_cast; rfl
 have z2:(O:Int) * (H:Int)=((O * H:Nat):Int):=by push_cast; rfl
 unfold rpup cutD
 generalize H * I=P at *
 generalize O * H=Q at *
 have e2:((P:Int)+(H:Int)).toNat=P+H:=by omega
 have e3:((P:Int)+(H:Int)+(Q:Int)).toNat=P+H+Q:=by omega
 have hxl:=ha.len
 obtain ⟨g,off,rfl,hgs,hc⟩:=ha.at (by omega)
 have HLEN:Hid (len=P+H+Q+O):=hlen
 have d1:P+H<=cap:=by omega
 have d2:P+H+Q<=len:=by omega
 have d3:P+H+Q < cap:=by omega
 have hs1:=fun W0 (ha0:Lst W0 (some ⟨g,off,none⟩) len cap xs)=>ha0.sub (by omega) 0 P (by omega) (by omega)
 have hs2:=fun W0 (ha0:Lst W0 (some ⟨g,off,none⟩) len cap xs)=>ha0.sub (by omega) P (P+H) (by omega) (by omega)
 have hs3:=fun W0 (ha0:Lst W0 (some ⟨g,off,none⟩) len cap xs)=>ha0.sub (by omega) (P+H) (P+H+Q) (by omega) (by omega)
 have hs4:=fun W0 (ha0:Lst W0 (some ⟨g,off,none⟩) len cap xs)=>ha0.sub (by omega) (P+H+Q) len (by omega) (by omega)
 have n1:¬ cap=P:=by omega
 have n2:¬ cap=P+H:=by omega
 have n3:¬ cap=P+H+Q:=by omega
 clear hlen hc
 go_enter Tryz.func69,Tryz.ntmps69
 go_wp2
 generalize w.alloc (.cells #[.int .i64 0,.int .i64 0,.slice none 0 0,.int .i64 0,.int .i64 0,.slice none 0 0,.slice none 0 0,.slice none 0 0] 102)=w0 at hal hrow ⊢
 obtain ⟨f0,f1,f2,f3,f4,f5,f6,f7⟩:=Zag hrow
 have g0:=hrow.frozen 0
 have g1:=hrow.frozen 1
 have g2:=hrow.frozen 2
 have g3:=hrow.frozen 3
 have g4:=hrow.frozen 4
 have g5:=hrow.frozen 5
 have g6:=hrow.frozen 6
 have g7:=hrow.frozen 7
 go_region
 all_goals go_wp2
 have hq:=Zbm hrow (.int .i64 H) (.int .i64 I) (.slice (some ⟨g,off,none⟩) P cap) (.int .i64 O) (.int .i64 H) (.slice (some ⟨g,off+(P+H),none⟩) Q (cap - (P+H))) (.slice (some ⟨g,off+P,none⟩) H (cap - P)) (.slice (some ⟨g,off+(P+H+Q),none⟩) (len - (P+H+Q)) (cap - (P+H+Q)))
 have hqd:=hq.drew
 have hO:len - (P+H+Q)=O:=by have:=HLEN.out; omega
 have hbq:=(((((((hal.setCell (p:=⟨w.heap.size,0,none⟩) nr (.int .i64 H)).setCell (p:=⟨w.heap.size,1,none⟩) nr (.int .i64 I)).setCell (p:=⟨w.heap.size,2,none⟩) nr (.slice (some ⟨g,off,none⟩) P cap)).setCell (p:=⟨w.heap.size,3,none⟩) nr (.int .i64 O)).setCell (p:=⟨w.heap.size,4,none⟩) nr (.int .i64 H)).setCell (p:=⟨w.heap.size,5,none⟩) nr (.slice (some ⟨g,off+(P+H),none⟩) Q (cap - (P+H)))).setCell (p:=⟨w.heap.size,6,none⟩) nr (.slice (some ⟨g,off+P,none⟩) H (cap - P))).setCell (p:=⟨w.heap.size,7,none⟩) nr (.slice (some ⟨g,off+(P+H+Q),none⟩) (len - (P+H+Q)) (cap - (P+H+Q)))
 have hbq:=hbq.drew
 refine (fun (key:∀ wz:World,wz.rowIs w.heap.size 102 8 (fn8 (.int .i64 H) (.int .i64 I) (.slice (some ⟨g,off,none⟩) P cap) (.int .i64 O) (.int .i64 H) (.slice (some ⟨g,off+(P+H),none⟩) Q (cap - (P+H))) (.slice (some ⟨g,off+P,none⟩) H (cap - P)) (.slice (some ⟨g,off+(P+H+Q),none⟩) (len - (P+H+Q)) (cap - (P+H+Q))))->Below w.heap.size w wz->bodyPost Tryz.prog Tryz.f69 _ Exit.ret _ wz)=>key _ hqd hbq) ?_
 clear hqd hbq hq hal hrow f0 f1 f2 f3 f4 f5 f6 f7 g0 g1 g2 g3 g4 g5 g6 g7
 intro wz hq hbq
 obtain ⟨q0,q1,q2,q3,q4,q5,q6,q7⟩:=Zag hq
 refine bodyPost_ret (v:=Pup.val ⟨H,I,some ⟨g,off,none⟩,P,cap,O,H,some ⟨g,off+(P+H),none⟩,Q,cap - (P+H),some ⟨g,off+P,none⟩,H,cap - P,some ⟨g,off+(P+H+Q),none⟩,O,cap - (P+H+Q)⟩) (by simp [results,Tryz.results69,go_sem,Pup.val,Pup.cells,q0,q1,q2,q3,q4,q5,q6,q7,hO]) rfl ⟨_,_,_,_,_,_,_,_,rfl,fun W0 ha0=>⟨?_,?_,?_,?_⟩,hbq⟩
 ·have h1:=hs1 W0 ha0
  simpa using h1
 ·have h1:=hs3 W0 ha0
  rw [Nat.add_sub_cancel_left,← List.drop_drop] at h1
  exact h1
 ·have h1:=hs2 W0 ha0
  rw [Nat.add_sub_cancel_left] at h1
  exact h1
 ·have h1:=hs4 W0 ha0
  rw [hO,← List.drop_drop,← List.drop_drop] at h1
  exact h1
theorem rstates_any (c:Cfg) (hs:okW c.seed) (a:Option Addr) (n cap:Nat) (X:Nat->Exm) (DI DO:Nat->List Int) (M:Nat) (q:World) (HX:Exs q a n cap X DI DO) (hF:courseI c n X DI DO=0) (hm:(M:Int)<=c.steps) :
  Calls Tryz.prog 70 #[c.val,.slice a n cap,.int .i64 M] q fun e w'=>∃ b k Y,e=.returned (.slice b (M+1) k)/\Exs w' b (M+1) k Y (stW c n DI DO) (stM c n DI DO)/\Below q.heap.size q w':=by
 obtain ⟨hc,hn1,hn2,hex⟩:=Zbr hF
 obtain ⟨⟨i1,i2⟩,⟨h1,h2⟩,⟨o1,o2⟩,⟨b1,b2⟩,_⟩:=Zal hc
 have hzn:=ZaU hc
 obtain ⟨N,hNz⟩:=Int.eq_ofNat_of_zero_le (show 0<=sizeN c by omega)
 have hNt:(sizeN c).toNat=N:=by rw [hNz]; rfl
 have e1:stW c n DI DO=fun j=>(stateP c n DI DO N j).1:=by unfold stW; rw [hNt]
 have e2:stM c n DI DO=fun j=>(stateP c n DI DO N j).2:=by unfold stM; rw [hNt]
 rw [e1,e2]
 clear e1 e2
 obtain ⟨i,h,o,seed,batch,steps,crate,decay,how,keep,clip⟩:=c
 dsimp only at i1 i2 h1 h2 o1 o2 b1 b2 hs hm
 obtain ⟨I,rfl⟩:=Int.eq_ofNat_of_zero_le (show 0<=i by omega)
 obtain ⟨H,rfl⟩:=Int.eq_ofNat_of_zero_le (show 0<=h by omega)
 obtain ⟨O,rfl⟩:=Int.eq_ofNat_of_zero_le (show 0<=o by omega)
 obtain ⟨B,rfl⟩:=Int.eq_ofNat_of_zero_le (show 0<=batch by omega)
 have hN:N=H * I+H+O * H+O:=by have:=hNz.symm; unfold sizeN at this; dsimp only at this; exact_mod_cast this
 exact rstates_calls I H O B seed crate decay how keep clip hs steps hc N hN a n cap X DI DO M q HX hn1 hn2 hex (by omega)
theorem Lst.apartP {w:World} {ya:Option Addr} {n c:Nat} {xs:List Int} (h:Lst w ya n c xs) (hn:3<=n) {p:Nat} {s2 s5 s6 s7:Value} {v0 v1 v3 v4:Value} (hr:w.rowIs p 102 8 (fn8 v0 v1 s2 v3 v4 s5 s6 s7)) (h2:∀ k z,s2 ≠ .int k z) (h5:∀ k z,s5 ≠ .int k z):∀ g o,ya=some ⟨g,o,none⟩->g ≠ p:=fun g o e hgp=>by
 obtain ⟨b,off,e2,_,hc⟩:=h.at (by omega)
 rw [e] at e2
 simp only [Option.some.injEq,Addr.mk.injEq,and_true] at e2
 obtain ⟨rfl,rfl⟩:=e2
 subst hgp
 have c0:=hc 0 (by omega)
 have c1:=hc 1 (by omega)
 have c2:=hc 2 (by omega)
 rw [Nat.add_zero] at c0
 have r2:=hr.cell (i:=2) (by omega)
 have r5:=hr.cell (i:=5) (by omega)
 have hlt:o+2 < 8:=by
  obtain ⟨cs,hb,hs,_⟩:=hr
  have hh:=c2
  simp only [World.cell?,hb] at hh
  have:=(Array.getElem?_eq_some_iff.1 hh).1
  omega
 rcases (show o=0\/o=1\/o=2\/o=3\/o=4\/o=5 by omega) with rfl | rfl | rfl | rfl | rfl | rfl
 ·rw [r2] at c2; exact h2 _ _ (Option.some.inj c2)
 ·rw [r2] at c1; exact h2 _ _ (Option.some.inj c1)
 ·rw [r2] at c0; exact h2 _ _ (Option.some.inj c0)
 ·rw [r5] at c2; exact h5 _ _ (Option.some.inj c2)
 ·rw [r5] at c1; exact h5 _ _ (Option.some.inj c1)
 ·rw [r5] at c0; exact h5 _ _ (Option.some.inj c0)
theorem Lst.set8 {w:World} {ya:Option Addr} {n c p:Nat} {xs:List Int} (h:Lst w ya n c xs) (hf:∀ g o,ya=some ⟨g,o,none⟩->g ≠ p) (v0 v1 v2 v3 v4 v5 v6 v7:Value):Lst ((((((((w.setCell ⟨p,0,none⟩ v0).setCell ⟨p,1,none⟩ v1).setCell ⟨p,2,none⟩ v2).setCell ⟨p,3,none⟩ v3).setCell ⟨p,4,none⟩ v4).setCell ⟨p,5,none⟩ v5).setCell ⟨p,6,none⟩ v6).setCell ⟨p,7,none⟩ v7) ya n c xs:=by
 have key:∀ (u:World) (i:Nat) (v:Value),Lst u ya n c xs->Lst (u.setCell ⟨p,i,none⟩ v) ya n c xs:=fun u i v hl=>by
  refine ⟨hl.1,hl.2.1,?_⟩
  rcases hl.2.2 with h0 | ⟨g,off,e,hs,hc⟩
  ·exact .inl h0
  ·exact .inr ⟨g,off,e,by rw [World.size_setCell]; exact hs,fun j hj=>by rw [World.cell?_setCell_far _ _ _ _ (fun e2=>hf g off e e2.symm)]; exact hc j hj⟩
 exact key _ _ _ (key _ _ _ (key _ _ _ (key _ _ _ (key _ _ _ (key _ _ _ (key _ _ _ (key _ _ _ h)))))))
end Go.Proofs.YthmiojmlaclgaaaGreatDoor.Fx
