/- What the law stands on: RefDkE. -/
import Derived.Test.YthmiojmlaclgaaaGreatDoorJ00
import Derived.Test.YthmiojmlaclgaaaGreatDoorJ40
import Derived.Test.YthmiojmlaclgaaaGreatDoorJ38
import Derived.Test.YthmiojmlaclgaaaGreatDoorJ14
import Derived.Test.YthmiojmlaclgaaaGreatDoorJ32
set_option maxRecDepth 100000
set_option maxHeartbeats 12800000
namespace Go.Proofs.YthmiojmlaclgaaaGreatDoor.Fx
open Go.RowKit
section
variable {base:Nat} {w w':World} {b:Nat} {d:Dsk} {a:Option Addr} {cap:Nat} {X:Nat->Exm}
theorem in_data {z:Int} {n:Nat}:inB z 0 ((n:Int) - 1)=decide (0<=z/\z < (n:Int)):=by
 unfold inB
 by_cases h:0<=z/\z < (n:Int)
 ·rw [decide_eq_true h,decide_eq_true h.1,decide_eq_true (by omega)]; rfl
 ·rw [decide_eq_false h]
  by_cases h1:0<=z
  ·rw [decide_eq_false (show ¬ z<=(n:Int) - 1 by omega),Bool.and_false]
  ·rw [decide_eq_false h1,Bool.false_and]
theorem lossP (h:BnIn base w b d a cap X) {an:Option Addr} {cn:Nat} {z:Int} (hz:Lst w an 1 cn [z]) {ls:List Ln} (hB:Beg d.T ls):∃ gn on,an=some ⟨gn,on,none⟩/\d.k=ls.length/\ls.length<=100/\d.n<=16/\Hid (∀ q,Below w.heap.size w q->Calls Tryz.prog 65 #[d.c.val,.slice a d.n cap] q fun e w'=>e=.returned (.int .i64 (courseI d.c d.n d.X d.DI d.DO))/\Below q.heap.size q w')/\Hid (∀ q e0,Below w.heap.size w q->1<=e0->e0<=99->Calls Tryz.prog 39 #[.int .i64 e0] q fun e w'=>e=.returned (.string ⟨(errA e0).toArray⟩)/\Below q.heap.size q w')/\(0<=courseI d.c d.n d.X d.DI d.DO/\courseI d.c d.n d.X d.DI d.DO<=99)/\Hid (∀ q,Below w.heap.size w q->BnIn base q b d a cap X)/\Hid (∀ q,Below w.heap.size w q->(q.cell? ⟨b,0,none⟩=some (.int .i64 d.c.i)/\q.cell? ⟨b,1,none⟩=some (.int .i64 d.c.h)/\q.cell? ⟨b,2,none⟩=some (.int .i64 d.c.o)/\q.cell? ⟨b,3,none⟩=some (.int .u64 d.c.seed)/\q.cell? ⟨b,4,none⟩=some (.int .i64 d.c.batch)/\q.cell? ⟨b,5,none⟩=some (.int .i64 d.c.steps)/\q.cell? ⟨b,6,none⟩=some (.int .i64 d.c.rate)/\q.cell? ⟨b,7,none⟩=some (.int .i64 d.c.decay)/\q.cell? ⟨b,8,none⟩=some (.int .i64 d.c.how)/\q.cell? ⟨b,9,none⟩=some (.int .i64 d.c.keep)/\q.cell? ⟨b,10,none⟩=some (.int .i64 d.c.clip)/\q.cell? ⟨b,11,none⟩=some (.slice a d.n cap))/\q.cell? ⟨gn,on,none⟩=some (.int .i64 z))/\base<=w.heap.size/\Below w.heap.size w w.drew/\Below w.heap.size w w.drew.drew/\IntKind.i64.wrap ((d.n:Int) - 1)=(d.n:Int) - 1/\Hid (∀ q,Calls Tryz.prog 64 #[.int .i64 z,.int .i64 0,.int .i64 ((d.n:Int) - 1)] q fun e w'=>e=.returned (.bool (decide (0<=z/\z < (d.n:Int))))/\w'=q):=by
 obtain ⟨gn,on,rfl,hgn,hcn⟩:=hz.at (by omega)
 have hn:=h.ok.n
 refine ⟨gn,on,rfl,by unfold Dsk.k; rw [begL_of hB],hB.toBegTo.len,hn,fun q hq=>?_,fun q e0 hq h0 h1=>ZaQ e0 h0 h1 q (h.below hq).ld,ZbA _ _ _ _ _,fun q hq=>h.below hq,fun q hq=>⟨⟨(h.below hq).cells.1.c0,(h.below hq).cells.1.c1,(h.below hq).cells.1.c2,(h.below hq).cells.1.c3,(h.below hq).cells.1.c4,(h.below hq).cells.1.c5,(h.below hq).cells.1.c6,(h.below hq).cells.1.c7,(h.below hq).cells.1.c8,(h.below hq).cells.1.c9,(h.below hq).cells.1.c10,(h.below hq).cells.2.1⟩,(hq.cell (p:=⟨gn,on,none⟩) hgn).trans (hcn 0 (by omega))⟩,h.lt,br.drew,(br.drew).drew,ZaK _ (by omega) (by have:d.n<=16:=hn; omega),fun q=>?_⟩
 ·rw [← h.course]
  exact Zcb d.c a d.n cap X d.DI d.DO q (h.below hq).exs
 ·rw [← in_data]
  exact Zct z 0 ((d.n:Int) - 1) q
theorem course_loss_out (h:BnIn base w b d a cap X) (an:Option Addr) (cn:Nat) (z:Int) (hz:Lst w an 1 cn [z]) (la:Option Addr) (lc:Nat) (ls:List Ln) (hB:Beg d.T ls) (hin:¬ (0<=z/\z < (d.n:Int))) :
  Calls Tryz.prog 43 #[.pointer (some ⟨b,0,none⟩),.string ⟨#[108,111,115,115]⟩,.slice an 1 cn,.slice la ls.length lc] w fun e w'=>BnR base b w (dLoss z d) e w':=by
 obtain ⟨gn,on,rfl,en,h100,hn16,HCO,HWR,hcb,HH,KCN,hlt0,hdr,hd1,hwr,RI⟩:=lossP h hz hB
 have j0:(0:Int) < ((1:Nat):Int):=by omega
 rw [decide_eq_false hin] at RI
 have HD:Hid (dLoss z d=⟨[],4,d⟩):=by show _=_; unfold dLoss; rw [lossE_out hin]; unfold dNum; rw [if_neg (by decide)]
 clear hB en h HCO hz
 obtain ⟨V,HV⟩:=nm ((⟨#[108,111,115,115]⟩:ByteArray))
 have q0:(V.toList == [108,111,115,115])=true:=by rw [← HV.out]; exact (strEqL [108,111,115,115] [108,111,115,115]).trans (by decide)
 have q1:(V.toList == [115,116,101,112])=false:=by rw [← HV.out]; exact (strEqL [108,111,115,115] [115,116,101,112]).trans (by decide)
 have q2:(V.toList == [97,117,100,105,116])=false:=by rw [← HV.out]; exact (strEqL [108,111,115,115] [97,117,100,105,116]).trans (by decide)
 rw [HV.out]
 go_enter Tryz.func43,Tryz.ntmps43
 go_wp2_with fail
 refine wp_region_held_drew (S:=fun q=>(q.cell? ⟨b,0,none⟩=some (.int .i64 d.c.i)/\q.cell? ⟨b,1,none⟩=some (.int .i64 d.c.h)/\q.cell? ⟨b,2,none⟩=some (.int .i64 d.c.o)/\q.cell? ⟨b,3,none⟩=some (.int .u64 d.c.seed)/\q.cell? ⟨b,4,none⟩=some (.int .i64 d.c.batch)/\q.cell? ⟨b,5,none⟩=some (.int .i64 d.c.steps)/\q.cell? ⟨b,6,none⟩=some (.int .i64 d.c.rate)/\q.cell? ⟨b,7,none⟩=some (.int .i64 d.c.decay)/\q.cell? ⟨b,8,none⟩=some (.int .i64 d.c.how)/\q.cell? ⟨b,9,none⟩=some (.int .i64 d.c.keep)/\q.cell? ⟨b,10,none⟩=some (.int .i64 d.c.clip)/\q.cell? ⟨b,11,none⟩=some (.slice a d.n cap))/\q.cell? ⟨gn,on,none⟩=some (.int .i64 z)) (by kernel_rfl) (by with_reducible exact (KCN.out _ hdr)) (fun hHeld=>?_)
 refine tk 0 (h:=?_)
 refine tk 1 (h:=?_)
 refine tk 2 (h:=?_)
 refine tk 3 (h:=?_)
 refine tk 4 (h:=?_)
 refine tk 5 (h:=?_)
 refine tk 6 (h:=?_)
 refine tk 7 (h:=?_)
 refine tk 8 (h:=?_)
 refine tk 9 (h:=?_)
 refine tk 10 (h:=?_)
 refine tk 11 (h:=?_)
 refine rd 12 (h:=fun K hK=>?_)
 clear hHeld
 go_simp
 (go_at_call 64; refine (RI.out _).mono ?_; rintro e w' ⟨rfl,hwE⟩; have hwF:=hwE.symm; subst hwF)
 go_wp2_with fail
 refine hK.out _ _ ?_ (fun hHeld=>?_)
 ·with_reducible exact (KCN.out _ hdr)
 clear hK K
 try simp only [Act.put,List.setIfInBounds_toArray,List.set_cons_zero,List.set_cons_succ]
 refine tk 13 (h:=?_)
 refine tk 14 (h:=?_)
 refine wpAnyH_done (by kernel_rfl) ?_ _
 go_wp2_with fail
 refine (HWR.out _ 4 hdr (by omega) (by omega)).mono ?_
 rintro e w3 ⟨rfl,hw3⟩
 have hd3:=hdr.trans (hw3.mono hdr.size)
 go_wp2_with fail
 go_ret
 exact ⟨by rw [HD.out,ZaE (by omega)]; rfl,⟨a,cap,X,by rw [HD.out]; exact HH.out _ hd3⟩,hd3.mono hlt0⟩
theorem course_loss_bad (h:BnIn base w b d a cap X) (an:Option Addr) (cn:Nat) (z:Int) (hz:Lst w an 1 cn [z]) (la:Option Addr) (lc:Nat) (ls:List Ln) (hB:Beg d.T ls) (hin:0<=z/\z < (d.n:Int)) (hbad:¬ (courseI d.c d.n d.X d.DI d.DO=0/\(ls.length:Int)<=d.c.steps)) :
  Calls Tryz.prog 43 #[.pointer (some ⟨b,0,none⟩),.string ⟨#[108,111,115,115]⟩,.slice an 1 cn,.slice la ls.length lc] w fun e w'=>BnR base b w (dLoss z d) e w':=by
 obtain ⟨gn,on,rfl,en,h100,hn16,HCO,HWR,hcb,HH,KCN,hlt0,hdr,hd1,hwr,RI⟩:=lossP h hz hB
 have j0:(0:Int) < ((1:Nat):Int):=by omega
 rw [decide_eq_true hin] at RI
 have HDL:Hid (dLoss z d=dNum (lossV z d) (if courseI d.c d.n d.X d.DI d.DO=0 then (if inB (ls.length:Int) 0 d.c.steps=true then 0 else 1) else courseI d.c d.n d.X d.DI d.DO) d):=by show _=_; unfold dLoss; rw [lossE_in hin,en]; rfl
 obtain ⟨E,HE⟩:=nm (courseI d.c d.n d.X d.DI d.DO)
 obtain ⟨N,HN⟩:=nm (ls.length)
 rw [HE.out] at HCO hcb HDL hbad
 rw [HN.out] at HDL h100 hbad
 rw [HN.out]
 clear hB en h hz
 simp only [Cfg.val,Cfg.cells] at HCO
 obtain ⟨V,HV⟩:=nm ((⟨#[108,111,115,115]⟩:ByteArray))
 have q0:(V.toList == [108,111,115,115])=true:=by rw [← HV.out]; exact (strEqL [108,111,115,115] [108,111,115,115]).trans (by decide)
 have q1:(V.toList == [115,116,101,112])=false:=by rw [← HV.out]; exact (strEqL [108,111,115,115] [115,116,101,112]).trans (by decide)
 have q2:(V.toList == [97,117,100,105,116])=false:=by rw [← HV.out]; exact (strEqL [108,111,115,115] [97,117,100,105,116]).trans (by decide)
 rw [HV.out]
 go_enter Tryz.func43,Tryz.ntmps43
 go_wp2_with fail
 refine wp_region_held_drew (S:=fun q=>(q.cell? ⟨b,0,none⟩=some (.int .i64 d.c.i)/\q.cell? ⟨b,1,none⟩=some (.int .i64 d.c.h)/\q.cell? ⟨b,2,none⟩=some (.int .i64 d.c.o)/\q.cell? ⟨b,3,none⟩=some (.int .u64 d.c.seed)/\q.cell? ⟨b,4,none⟩=some (.int .i64 d.c.batch)/\q.cell? ⟨b,5,none⟩=some (.int .i64 d.c.steps)/\q.cell? ⟨b,6,none⟩=some (.int .i64 d.c.rate)/\q.cell? ⟨b,7,none⟩=some (.int .i64 d.c.decay)/\q.cell? ⟨b,8,none⟩=some (.int .i64 d.c.how)/\q.cell? ⟨b,9,none⟩=some (.int .i64 d.c.keep)/\q.cell? ⟨b,10,none⟩=some (.int .i64 d.c.clip)/\q.cell? ⟨b,11,none⟩=some (.slice a d.n cap))/\q.cell? ⟨gn,on,none⟩=some (.int .i64 z)) (by kernel_rfl) (by with_reducible exact (KCN.out _ hdr)) (fun hHeld=>?_)
 refine tk 0 (h:=?_)
 refine tk 1 (h:=?_)
 refine tk 2 (h:=?_)
 refine tk 3 (h:=?_)
 refine tk 4 (h:=?_)
 refine tk 5 (h:=?_)
 refine tk 6 (h:=?_)
 refine tk 7 (h:=?_)
 refine tk 8 (h:=?_)
 refine tk 9 (h:=?_)
 refine tk 10 (h:=?_)
 refine tk 11 (h:=?_)
 refine rd 12 (h:=fun K hK=>?_)
 clear hHeld
 go_simp
 (go_at_call 64; refine (RI.out _).mono ?_; rintro e w' ⟨rfl,hwE⟩; have hwF:=hwE.symm; subst hwF)
 go_wp2_with fail
 refine hK.out _ _ ?_ (fun hHeld=>?_)
 ·with_reducible exact (KCN.out _ hdr)
 clear hK K
 try simp only [Act.put,List.setIfInBounds_toArray,List.set_cons_zero,List.set_cons_succ]
 refine tk 13 (h:=?_)
 refine tk 14 (h:=?_)
 refine wpAnyH_done (by kernel_rfl) ?_ _
 go_wp2_with fail
 refine wp_region_held_drew (S:=fun q=>q.cell? ⟨b,0,none⟩=some (.int .i64 d.c.i)/\q.cell? ⟨b,1,none⟩=some (.int .i64 d.c.h)/\q.cell? ⟨b,2,none⟩=some (.int .i64 d.c.o)/\q.cell? ⟨b,3,none⟩=some (.int .u64 d.c.seed)/\q.cell? ⟨b,4,none⟩=some (.int .i64 d.c.batch)/\q.cell? ⟨b,5,none⟩=some (.int .i64 d.c.steps)/\q.cell? ⟨b,6,none⟩=some (.int .i64 d.c.rate)/\q.cell? ⟨b,7,none⟩=some (.int .i64 d.c.decay)/\q.cell? ⟨b,8,none⟩=some (.int .i64 d.c.how)/\q.cell? ⟨b,9,none⟩=some (.int .i64 d.c.keep)/\q.cell? ⟨b,10,none⟩=some (.int .i64 d.c.clip)/\q.cell? ⟨b,11,none⟩=some (.slice a d.n cap)) (by kernel_rfl) (by with_reducible exact (KCN.out _ hd1).1) (fun hHeld=>?_)
 refine tk 0 (h:=?_)
 refine tk 1 (h:=?_)
 refine tk 2 (h:=?_)
 refine tk 3 (h:=?_)
 refine tk 4 (h:=?_)
 refine tk 5 (h:=?_)
 refine tk 6 (h:=?_)
 refine tk 7 (h:=?_)
 refine rd 8 (h:=fun K hK=>?_)
 clear hHeld
 go_simp
 (go_at_call 65; refine (HCO.out _ hd1).mono ?_; rintro e w2 ⟨rfl,bel2⟩; have hd2:=hd1.trans (bel2.mono hd1.size); have Z2:=(KCN.out _ hd2).1)
 go_wp2_with fail
 refine hK.out _ _ ?_ (fun hHeld=>?_)
 ·with_reducible exact Z2
 clear hK K
 try simp only [Act.put,List.setIfInBounds_toArray,List.set_cons_zero,List.set_cons_succ]
 refine tk 9 (h:=?_)
 refine wpAnyH_done (by kernel_rfl) ?_ _
 by_cases hE:E=0
 rotate_left
 ·have k1:(E == 0)=false:=by rw [beq_eq_false_iff_ne]; exact hE
  have k1':(E != 0)=true:=by unfold bne; rw [k1]; rfl
  have HD:Hid (dLoss z d=⟨[],E,d⟩):=by
   show _=_
   rw [HDL.out,if_neg hE]
   unfold dNum
   rw [if_neg hE]
  go_wp2_with fail
  refine (HWR.out _ E hd2 (by omega) (by omega)).mono ?_
  rintro e w3 ⟨rfl,hw3⟩
  have hd3:=hd2.trans (hw3.mono hd2.size)
  go_wp2_with fail
  go_ret
  exact ⟨by rw [HD.out,ZaE (by omega)]; rfl,⟨a,cap,X,by rw [HD.out]; exact HH.out _ hd3⟩,hd3.mono hlt0⟩
 ·have k1:(E == 0)=true:=by rw [beq_iff_eq]; exact hE
  have k1':(E != 0)=false:=by unfold bne; rw [k1]; rfl
  obtain ⟨⟨_,_,_,_,_,y5,_,_,_,_,_,_⟩,_⟩:=KCN.out _ hd2
  have hst:¬ (N:Int)<=d.c.steps:=fun hx=>hbad ⟨hE,hx⟩
  have k2:d.c.steps < (N:Int):=by omega
  have HD:Hid (dLoss z d=⟨[],1,d⟩):=by
   show _=_
   rw [HDL.out,if_pos hE,if_neg (by unfold inB; simp; omega)]
   unfold dNum
   rw [if_neg (by decide)]
  go_wp2_with fail
  refine (HWR.out _ 1 hd2 (by omega) (by omega)).mono ?_
  rintro e w3 ⟨rfl,hw3⟩
  have hd3:=hd2.trans (hw3.mono hd2.size)
  go_wp2_with fail
  go_ret
  exact ⟨by rw [HD.out,ZaE (by omega)]; rfl,⟨a,cap,X,by rw [HD.out]; exact HH.out _ hd3⟩,hd3.mono hlt0⟩
end
end Go.Proofs.YthmiojmlaclgaaaGreatDoor.Fx
