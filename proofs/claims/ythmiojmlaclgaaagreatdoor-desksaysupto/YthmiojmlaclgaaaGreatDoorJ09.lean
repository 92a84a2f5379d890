/- What the law stands on: TrnB RefFix RefIn RefOptA. -/
import Derived.Test.YthmiojmlaclgaaaGreatDoorJ00
import Derived.Test.YthmiojmlaclgaaaGreatDoorJ08
import Derived.Deep.RegionHeld3
import Derived.Test.YthmiojmlaclgaaaGreatDoorJ01
import Derived.Test.YthmiojmlaclgaaaGreatDoorJ06
set_option maxRecDepth 100000
set_option maxHeartbeats 12800000
namespace Go.Proofs.YthmiojmlaclgaaaGreatDoor.Fx
open Go.RowKit
theorem made_at (q:World) (z:Value) (n:Nat) (t:TypeId) {b:Nat} (hb:b=q.heap.size):(q.alloc (.cells (madeCells #[z] n) t)).rowIs b t n (fun _=>z):=by
 subst hb; exact World.rowIs_made _ _ _ _
theorem undrew {w w1:World} (h:Below w.drew.heap.size w.drew w1):Below w.heap.size w w1:=(Below.drew (Below.refl w.heap.size w)).trans h
theorem fn2_at (q:World) (v0 v1:Value) (t:TypeId) {b:Nat} (hb:b=q.heap.size):(q.alloc (.cells #[v0,v1] t)).rowIs b t 2 (fn2 v0 v1):=by
 subst hb; exact Zaj _ _ _ _
theorem al {B:Nat} {W q:World} (h:Below B W q) (hB:B<=W.heap.size) {o:Obj}:Below B W (q.alloc o):=h.alloc (Nat.le_trans hB h.size) o
theorem Zcs {Bd:Nat} {W q:World} {b:Nat} (h:Below Bd W q) (hb:Bd<=b) (v0 v1:Value):Below Bd W ((q.setCell ⟨b,0,none⟩ v0).setCell ⟨b,1,none⟩ v1):=(h.setCell hb v0).setCell hb v1
theorem via5 {P:Prop} {F Q:Nat->Nat->Nat->World->Prop} (h1:(∀ g1 g2 OB q,F g1 g2 OB q->Q g1 g2 OB q)->P) (h2:∀ g1 g2 OB q,F g1 g2 OB q->Q g1 g2 OB q):P:=h1 h2
structure StAt (W:World) (N:Nat) (g1 g2 OB:Nat) (q:World):Prop where
 r1:q.rowIs g1 3 N (fun _=>.int .i64 0)
 r2:q.rowIs g2 3 N (fun _=>.int .i64 0)
 ro:q.rowIs OB 106 2 (fn2 (.slice (some ⟨g1,0,none⟩) N N) (.slice (some ⟨g2,0,none⟩) N N))
 n1:g1 ≠ g2
 n2:g1 ≠ OB
 n3:g2 ≠ OB
 l1:W.heap.size<=g1
 l2:W.heap.size<=g2
 l3:W.heap.size<=OB
 bel:Below W.heap.size W q
theorem tstart_own (c:Cfg) (hc:cfgB c=true) (hs:okW c.seed) (N:Nat) (hN:(N:Int)=sizeN c) (w:World) :
  Calls Tryz.prog 90 #[c.val] w fun e w'=>∃ ga gb,e=.returned (.agg #[.slice (some ⟨ga,0,none⟩) N N,.slice (some ⟨gb,0,none⟩) N N])/\w.heap.size<=ga/\w.heap.size<=gb/\ga ≠ gb/\Arr w' ga N N (startG c.seed)/\Arr w' gb N N zeroG/\Below w.heap.size w w':=by
 have hNb:=ZaU hc
 have N4:4<=N:=by omega
 have N40:N<=40:=by omega
 have HCN:Hid (∀ q,Calls Tryz.prog 130 #[c.val] q fun e w'=>e=.returned (.int .i64 (N:Int))/\w'=q.alloc (.cells c.cells 50)):=fun q=>by rw [hN]; exact tcount_calls c hc q
 have hmk:=run_make_row' (P:=Tryz.prog) 66 3 (.int .i64 0) 8 Tryz.underlying66 info3 rfl .i64 .i64 N (by omega) (by omega)
 have lb:=LawBox.start w c (.slice none 0 0) (.slice none 0 0)
 obtain ⟨W,HW⟩:∃ q,Hid (q=((w.alloc (.cells c.cells 50)).alloc (.cells #[.slice none 0 0,.slice none 0 0] 106))):=⟨_,rfl⟩
 have lbW:LawBox w c (.slice none 0 0) (.slice none 0 0) W:=by rw [HW.out]; exact lb
 clear lb
 have KB:Hid (∀ q,Below W.heap.size W q->LawBox w c (.slice none 0 0) (.slice none 0 0) q):=fun q hq=>lbW.below hq
 have KS:Hid (∀ q,Below W.heap.size W q->q.cell? ⟨w.heap.size,0,none⟩=some (.int .i64 c.i)/\q.cell? ⟨w.heap.size,1,none⟩=some (.int .i64 c.h)/\q.cell? ⟨w.heap.size,2,none⟩=some (.int .i64 c.o)/\q.cell? ⟨w.heap.size,3,none⟩=some (.int .u64 c.seed)/\q.cell? ⟨w.heap.size,4,none⟩=some (.int .i64 c.batch)/\q.cell? ⟨w.heap.size,5,none⟩=some (.int .i64 c.steps)/\q.cell? ⟨w.heap.size,6,none⟩=some (.int .i64 c.rate)/\q.cell? ⟨w.heap.size,7,none⟩=some (.int .i64 c.decay)/\q.cell? ⟨w.heap.size,8,none⟩=some (.int .i64 c.how)/\q.cell? ⟨w.heap.size,9,none⟩=some (.int .i64 c.keep)/\q.cell? ⟨w.heap.size,10,none⟩=some (.int .i64 c.clip)):=fun q hq=>by
  obtain ⟨x0,x1,x2,x3,x4,x5,x6,x7,x8,x9,x10⟩:=(KB.out q hq).cfg
  exact ⟨x0,x1,x2,x3,x4,x5,x6,x7,x8,x9,x10⟩
 have hlt:=lbW.st.lt
 have T0:Below W.heap.size W W:=br
 have b0:Below W.heap.size W W.drew:=Zab br 1
 have L0:W.heap.size<=W.heap.size:=nr
 have L1:W.heap.size<=W.heap.size+1:=by omega
 have L2:W.heap.size<=W.heap.size+1+1:=by omega
 have L3:W.heap.size<=W.heap.size+1+1+1:=by omega
 have L4:W.heap.size<=W.heap.size+1+1+1+1:=by omega
 have hle:W.heap.size<=W.heap.size:=nr
 have rst:=lbW.st
 clear hc hNb hN lbW
 obtain ⟨i,h,o,seed,batch,steps,crate,decay,how,keep,clip⟩:=c
 simp only [Cfg.val,Cfg.cells] at *
 go_enter Tryz.func90,Tryz.ntmps90
 go_wp2_with fail
 rw [← HW.out]
 clear HW
 apply via5 (F:=StAt W N)
 ·intro key
  go_region_held3 (fun q=>q.cell? ⟨w.heap.size,0,none⟩=some (.int .i64 i)/\q.cell? ⟨w.heap.size,1,none⟩=some (.int .i64 h)/\q.cell? ⟨w.heap.size,2,none⟩=some (.int .i64 o)/\q.cell? ⟨w.heap.size,3,none⟩=some (.int .u64 seed)/\q.cell? ⟨w.heap.size,4,none⟩=some (.int .i64 batch)/\q.cell? ⟨w.heap.size,5,none⟩=some (.int .i64 steps)/\q.cell? ⟨w.heap.size,6,none⟩=some (.int .i64 crate)/\q.cell? ⟨w.heap.size,7,none⟩=some (.int .i64 decay)/\q.cell? ⟨w.heap.size,8,none⟩=some (.int .i64 how)/\q.cell? ⟨w.heap.size,9,none⟩=some (.int .i64 keep)/\q.cell? ⟨w.heap.size,10,none⟩=some (.int .i64 clip))
   (first | with_reducible exact KS.out _ (Below.drew T0) | with_reducible exact KS.out _ (Below.drew (al T0 hle)) | with_reducible exact KS.out _ (Below.drew (al (al T0 hle) hle)) | with_reducible exact KS.out _ (Below.drew (al (al (al T0 hle) hle) hle)) | with_reducible exact KS.out _ (Below.drew (al (al (al (al T0 hle) hle) hle) hle)) | with_reducible exact KS.out _ (Below.drew (al (al (al (al (al T0 hle) hle) hle) hle) hle)) | with_reducible exact KS.out _ (al b0 hle) | with_reducible exact KS.out _ (al (al b0 hle) hle) | with_reducible exact KS.out _ (al (al (al b0 hle) hle) hle) | with_reducible exact KS.out _ (al (al (al (al b0 hle) hle) hle) hle) | with_reducible exact KS.out _ (al (al (al (al (al b0 hle) hle) hle) hle) hle) | with_reducible exact KS.out _ (Below.drew (Zcs (al (al (al (al (al T0 hle) hle) hle) hle) hle) L0 _ _)) | with_reducible exact KS.out _ (Below.drew (Zcs (al (al (al (al (al T0 hle) hle) hle) hle) hle) L1 _ _)) | with_reducible exact KS.out _ (Below.drew (Zcs (al (al (al (al (al T0 hle) hle) hle) hle) hle) L2 _ _)) | with_reducible exact KS.out _ (Below.drew (Zcs (al (al (al (al (al T0 hle) hle) hle) hle) hle) L3 _ _)) | with_reducible exact KS.out _ (Below.drew (Zcs (al (al (al (al (al T0 hle) hle) hle) hle) hle) L4 _ _)))
   (first | (go_at_call 130; refine (HCN.out _).mono ?_; rintro e w1 ⟨rfl,rfl⟩))
  ·have f:StAt W N (W.heap.size+1) (W.heap.size+1+1+1) (W.heap.size+1+1+1+1) ((((((W.alloc (.cells #[.int .i64 i,.int .i64 h,.int .i64 o,.int .u64 seed,.int .i64 batch,.int .i64 steps,.int .i64 crate,.int .i64 decay,.int .i64 how,.int .i64 keep,.int .i64 clip] 50)).alloc (.cells (madeCells #[.int .i64 0] N) 3)).alloc (.cells #[.int .i64 i,.int .i64 h,.int .i64 o,.int .u64 seed,.int .i64 batch,.int .i64 steps,.int .i64 crate,.int .i64 decay,.int .i64 how,.int .i64 keep,.int .i64 clip] 50)).alloc (.cells (madeCells #[.int .i64 0] N) 3)).alloc (.cells #[.slice (some ⟨W.heap.size+1,0,none⟩) N N,.slice (some ⟨W.heap.size+1+1+1,0,none⟩) N N] 106))).drew:=by
    refine ⟨World.rowIs.drew ?_,World.rowIs.drew ?_,World.rowIs.drew ?_,by omega,by omega,by omega,by omega,by omega,by omega,Below.drew (al (al (al (al (al T0 hle) hle) hle) hle) hle)⟩
    ·iterate 6 (first | done | (refine made_at _ _ _ _ ?_; simp; done) | refine World.rowIs.alloc ?_ _)
    ·iterate 6 (first | done | (refine made_at _ _ _ _ ?_; simp; done) | refine World.rowIs.alloc ?_ _)
    ·iterate 6 (first | done | (refine fn2_at _ _ _ _ ?_; simp; done) | refine World.rowIs.alloc ?_ _)
   generalize ((((((W.alloc (.cells #[.int .i64 i,.int .i64 h,.int .i64 o,.int .u64 seed,.int .i64 batch,.int .i64 steps,.int .i64 crate,.int .i64 decay,.int .i64 how,.int .i64 keep,.int .i64 clip] 50)).alloc (.cells (madeCells #[.int .i64 0] N) 3)).alloc (.cells #[.int .i64 i,.int .i64 h,.int .i64 o,.int .u64 seed,.int .i64 batch,.int .i64 steps,.int .i64 crate,.int .i64 decay,.int .i64 how,.int .i64 keep,.int .i64 clip] 50)).alloc (.cells (madeCells #[.int .i64 0] N) 3)).alloc (.cells #[.slice (some ⟨W.heap.size+1,0,none⟩) N N,.slice (some ⟨W.heap.size+1+1+1,0,none⟩) N N] 106))).drew=q at f ⊢
   generalize W.heap.size+1+1+1+1=OB at f ⊢
   generalize W.heap.size+1+1+1=g2 at f ⊢
   generalize W.heap.size+1=g1 at f ⊢
   exact key g1 g2 OB q f
  all_goals
   refine key _ _ _ _ ?_
   refine ⟨World.rowIs.drew ?_,World.rowIs.drew ?_,World.rowIs.drew ?_,by omega,by omega,by omega,by omega,by omega,by omega,Below.drew (al (al (al (al (al T0 hle) hle) hle) hle) hle)⟩
   ·iterate 6 (first | done | (refine made_at _ _ _ _ ?_; simp; done) | refine World.rowIs.alloc ?_ _)
   ·iterate 6 (first | done | (refine made_at _ _ _ _ ?_; simp; done) | refine World.rowIs.alloc ?_ _)
   ·iterate 6 (first | done | (refine fn2_at _ _ _ _ ?_; simp; done) | refine World.rowIs.alloc ?_ _)
 ·rintro g1 g2 OB q ⟨r1,r2,ro,n1,n2,n3,l1,l2,l3,bel⟩
  clear hmk HCN b0 L0 L1 L2 L3 L4
  obtain ⟨q0,q1⟩:=Zaa ro
  go_wp2_with fail
  go_loopw [15] (fun v wr=>∃ k:Nat,k<=N/\v=.int .i64 k/\wr.rowIs g1 3 N (rowTo (startG seed) k)/\wr.rowIs g2 3 N (fun _=>.int .i64 0)/\wr.rowIs OB 106 2 (fn2 (.slice (some ⟨g1,0,none⟩) N N) (.slice (some ⟨g2,0,none⟩) N N))/\Below W.heap.size W wr) (fun v _=>N - (intOf v).toNat)
  case atStart=>exact ⟨0,Nat.zero_le _,rfl,ZaG r1,r2,ro,bel⟩
  case round =>
   clear q0 q1 r1 r2 ro bel
   obtain ⟨k,hk,rfl,r1,r2,ro,bel⟩:=hrel
   obtain ⟨q0,q1⟩:=Zaa ro
   have lb:=KB.out _ bel
   by_cases hlt2:k < N
   ·have i0:(0:Int)<=(k:Int):=by omega
    have i1:(k:Int) < (N:Int):=by omega
    have c3:=Zax r1 hlt2
    have f3:=r1.frozen k
    have KC:Hid (∀ q,Below wr.heap.size wr q->q.cell? ⟨OB,0,none⟩=some (.slice (some ⟨g1,0,none⟩) N N)/\q.cell? ⟨w.heap.size,3,none⟩=some (.int .u64 seed)):=fun q hq =>
     ⟨(Zaa (ro.of_block (hq.block _ ro.lt))).1,(lb.below hq).cfg.c3⟩
    have bd:Below wr.heap.size wr wr.drew:=Zab br 1
    have S0:=KC.out _ bd
    go_wp2_with fail
    go_region_held3 (fun q=>q.cell? ⟨OB,0,none⟩=some (.slice (some ⟨g1,0,none⟩) N N)/\q.cell? ⟨w.heap.size,3,none⟩=some (.int .u64 seed))
     (first | with_reducible exact S0 | with_reducible exact S1 | with_reducible exact S2)
     (first | (go_at_call 131; refine (tfirst_calls seed hs k (by omega) _).mono ?_; rintro e w1 ⟨rfl,hw1d⟩; have hw1:=undrew hw1d; have S1:=KC.out w1 hw1; have d3:=(hw1.cell (p:=⟨g1,k,none⟩) r1.lt).trans c3; have e3:=(hw1.frozen (p:=⟨g1,k,none⟩) r1.lt).trans f3; have S2:(w1.setCell ⟨g1,k,none⟩ (.int .i64 (startG seed k))).cell? ⟨OB,0,none⟩=some (.slice (some ⟨g1,0,none⟩) N N)/\(w1.setCell ⟨g1,k,none⟩ (.int .i64 (startG seed k))).cell? ⟨w.heap.size,3,none⟩=some (.int .u64 seed):=⟨(World.cell?_setCell_far _ _ _ _ (show g1 ≠ OB from n2)).trans S1.1,(World.cell?_setCell_far _ _ _ _ (show g1 ≠ w.heap.size by omega)).trans S1.2⟩))
    all_goals go_wp2_with fail
    all_goals
     go_roundw
     case rel =>
      have z1:=r1.of_block (hw1.block _ r1.lt)
      have z2:=r2.of_block (hw1.block _ r2.lt)
      have zo:=ro.of_block (hw1.block _ ro.lt)
      exact ⟨k+1,by omega,by go_num,Zaw z1,z2.setOther (a:=⟨g1,k,none⟩) (show g2 ≠ g1 from fun e=>n1 e.symm) _,zo.setOther (a:=⟨g1,k,none⟩) (show OB ≠ g1 from fun e=>n2 e.symm) _,(bel.trans (hw1.mono bel.size)).setCell (p:=⟨g1,k,none⟩) l1 _⟩
     case measure=>simp [intOf]; omega
   ·obtain rfl:k=N:=by omega
    have hr:=lb.st
    obtain ⟨x0,x1⟩:=Zaa hr
    have f0:=hr.frozen 0
    have f1:=hr.frozen 1
    go_wp2_with fail
    obtain ⟨y0,y1⟩:=Zaa (ZaB hr (.slice (some ⟨g1,0,none⟩) k k) (.slice (some ⟨g2,0,none⟩) k k))
    refine bodyPost_ret (v:=.agg #[.slice (some ⟨g1,0,none⟩) k k,.slice (some ⟨g2,0,none⟩) k k]) (by simp [results,Tryz.results90,go_sem,y0,y1]) rfl ⟨_,_,rfl,by omega,by omega,n1,?_,?_,(lb.bel.setCell (show w.heap.size<=w.heap.size+1 by omega) _).setCell (show w.heap.size<=w.heap.size+1 by omega) _⟩
    ·exact ((Arr.row r1).setOther (show g1 ≠ w.heap.size+1 by omega) _).setOther (show g1 ≠ w.heap.size+1 by omega) _
    ·have r2':wr.rowIs g2 3 k (rowTo zeroG k):=r2.congr (fun j hj=>by unfold rowTo zeroG; rw [if_pos hj])
     exact ((Arr.row r2').setOther (show g2 ≠ w.heap.size+1 by omega) _).setOther (show g2 ≠ w.heap.size+1 by omega) _
theorem tstart_calls (c:Cfg) (hc:cfgB c=true) (hs:okW c.seed) (N:Nat) (hN:(N:Int)=sizeN c) (w:World) :
  Calls Tryz.prog 90 #[c.val] w fun e w'=>∃ ga gb,e=.returned (.agg #[.slice (some ⟨ga,0,none⟩) N N,.slice (some ⟨gb,0,none⟩) N N])/\w.heap.size<=ga/\w.heap.size<=gb/\Lst w' (some ⟨ga,0,none⟩) N N ((List.range N).map (startG c.seed))/\Lst w' (some ⟨gb,0,none⟩) N N ((List.range N).map zeroG)/\Below w.heap.size w w' :=
 (tstart_own c hc hs N hN w).mono fun _ _ ⟨ga,gb,he,h1,h2,_,h3,h4,h5⟩=>⟨ga,gb,he,h1,h2,h3.lst,h4.lst,h5⟩
theorem Zaq (n:Int) (w:World):Calls Tryz.prog 143 #[.int .i64 n] w fun e w'=>e=.returned (.int .i64 (clampI n))/\w'=w:=by
 by_cases h1:2147483647 < n
 ·go_enter Tryz.func143,Tryz.ntmps143
  go_wp2
  go_ret
  exact ⟨Zad (by unfold clampI; rw [if_neg (by omega),if_pos (by omega)]),rfl⟩
 ·by_cases h0:n < -2147483647
  ·go_enter Tryz.func143,Tryz.ntmps143
   go_wp2
   go_ret
   exact ⟨Zad (by unfold clampI; rw [if_pos (by omega)]),rfl⟩
  ·go_enter Tryz.func143,Tryz.ntmps143
   go_wp2
   go_ret
   exact ⟨Zad (by unfold clampI; rw [if_neg (by omega),if_neg (by omega)]),rfl⟩
theorem Zbi (a b:Int) (w:World):Calls Tryz.prog 110 #[.int .i64 a,.int .i64 b] w fun e w'=>e=.returned (.int .i64 (addI a b))/\w'=w:=by
 have ha:=Zav a
 have hb:=Zav b
 go_enter Tryz.func110,Tryz.ntmps110
 go_wp2_with (go_at_call 143; refine (Zaq _ _).mono ?_; rintro e w' ⟨rfl,rfl⟩)
 go_ret
 exact ⟨rfl,rfl⟩
theorem sub_as_add (a b:Int):addI a (-clampI b)=subI a b:=by
 unfold addI subI; rw [clampI_neg,ZaO]; congr 1
theorem rsub_calls (a b:Int) (w:World):Calls Tryz.prog 109 #[.int .i64 a,.int .i64 b] w fun e w'=>e=.returned (.int .i64 (subI a b))/\w'=w:=by
 have hb:=Zav b
 go_enter Tryz.func109,Tryz.ntmps109
 go_wp2_with (first | (go_at_call 143; refine (Zaq _ _).mono ?_; rintro e w' ⟨rfl,rfl⟩) | (go_at_call 110; refine (Zbi _ _ _).mono ?_; rintro e w' ⟨rfl,rfl⟩))
 go_ret
 exact ⟨Zad (sub_as_add a b),rfl⟩
theorem ediv_facts (n d:Int) (hn:0<=n) (hd:0 < d):0<=n / d/\n / d<=n/\n / d * d=n - n % d/\(n / d+1) * d=n - n % d+d/\0<=n % d/\n % d < d:=by
 have e:=Int.mul_ediv_add_emod n d
 have c:n / d * d=d * (n / d):=Int.mul_comm _ _
 refine ⟨Int.ediv_nonneg hn (by omega),Int.ediv_le_self _ hn,by omega,?_,Int.emod_nonneg n (by omega),Int.emod_lt_of_pos n hd⟩
 rw [Int.add_mul]; omega
theorem near_pos (n d:Int) (w:World) (hn0:0<=n) (hn1:n<=4611686018427387904) (hd0:0 < d) (hd1:d<=2147483648) :
  Calls Tryz.prog 159 #[.int .i64 n,.int .i64 d] w fun e w'=>e=.returned (.int .i64 (rnd n d))/\w'=w:=by
 obtain ⟨q0,q1,p1,p2,r0,r1⟩:=ediv_facts n d hn0 hd0
 have P1:Hid (n / d * d=n - n % d):=p1
 have P2:Hid ((n / d+1) * d=n - n % d+d):=p2
 have b1:0<=n / d * d/\n / d * d<=n:=⟨Int.mul_nonneg q0 (by omega),by omega⟩
 have b2:n<=(n / d+1) * d/\(n / d+1) * d<=n+d:=by omega
 clear p1 p2
 go_enter Tryz.func159,Tryz.ntmps159
 go_wp2
 all_goals
  have p1:=P1.out
  have p2:=P2.out
  go_ret
  refine ⟨Zad (rnd_of rfl rfl ?_ ?_),rfl⟩ <;> intro h <;> (try simp only [beq_iff_eq,beq_eq_false_iff_ne,ne_eq] at *) <;> omega
theorem near_calls (n d:Int) (w:World) (hn0:-4611686018427387904<=n) (hn1:n<=4611686018427387904) (hd0:0 < d) (hd1:d<=2147483648) :
  Calls Tryz.prog 159 #[.int .i64 n,.int .i64 d] w fun e w'=>e=.returned (.int .i64 (rnd n d))/\w'=w:=by
 by_cases c:0<=n
 ·exact near_pos n d w c hn1 hd0 hd1
 ·have hb:=rnd_bd (-n) d hd0 4611686018427387904 (by omega) (by omega) (by omega)
  go_enter Tryz.func159,Tryz.ntmps159
  go_wp2_with (go_at_call 159; refine (near_pos _ _ _ (by omega) (by omega) (by omega) (by omega)).mono ?_; rintro e w' ⟨rfl,rfl⟩)
  go_ret
  exact ⟨Zad (by rw [rnd_neg _ _ hd0]; omega),rfl⟩
theorem Zbc (a b:Int) (w:World):Calls Tryz.prog 111 #[.int .i64 a,.int .i64 b] w fun e w'=>e=.returned (.int .i64 (mulI a b))/\w'=w:=by
 have hp:=prod_bd _ _ (Zav a) (Zav b)
 go_enter Tryz.func111,Tryz.ntmps111
 go_wp2_with (first | (go_at_call 143; refine (Zaq _ _).mono ?_; rintro e w' ⟨rfl,rfl⟩) | (go_at_call 159; refine (near_calls _ _ _ (by omega) (by omega) (by omega) (by omega)).mono ?_; rintro e w' ⟨rfl,rfl⟩))
 go_ret
 exact ⟨rfl,rfl⟩
theorem rdiv_calls (a b:Int) (w:World) (hb:b ≠ 0):Calls Tryz.prog 154 #[.int .i64 a,.int .i64 b] w fun e w'=>e=.returned (.int .i64 (divI a b))/\w'=w:=by
 have ha:=Zav a
 have hc:=Zav b
 have hn:=clampI_ne hb
 by_cases c:clampI b < 0
 ·go_enter Tryz.func154,Tryz.ntmps154
  go_wp2_with (first | (go_at_call 143; refine (Zaq _ _).mono ?_; rintro e w' ⟨rfl,rfl⟩) | (go_at_call 159; refine (near_calls _ _ _ (by omega) (by omega) (by omega) (by omega)).mono ?_; rintro e w' ⟨rfl,rfl⟩))
  go_ret
  exact ⟨Zad (by unfold divI quoI; rw [if_pos c,Int.neg_mul]),rfl⟩
 ·go_enter Tryz.func154,Tryz.ntmps154
  go_wp2_with (first | (go_at_call 143; refine (Zaq _ _).mono ?_; rintro e w' ⟨rfl,rfl⟩) | (go_at_call 159; refine (near_calls _ _ _ (by omega) (by omega) (by omega) (by omega)).mono ?_; rintro e w' ⟨rfl,rfl⟩))
  go_ret
  exact ⟨Zad (by unfold divI quoI; rw [if_neg (by omega)]),rfl⟩
theorem Zct (n lo hi:Int) (w:World):Calls Tryz.prog 64 #[.int .i64 n,.int .i64 lo,.int .i64 hi] w fun e w'=>e=.returned (.bool (inB n lo hi))/\w'=w:=by
 unfold inB
 by_cases h1:lo<=n
 ·by_cases h2:n<=hi
  ·go_enter Tryz.func64,Tryz.ntmps64
   go_wp2
   go_ret
   exact ⟨Zai (by simp [h1,h2]),rfl⟩
  ·go_enter Tryz.func64,Tryz.ntmps64
   go_wp2
   go_ret
   exact ⟨Zai (by simp; omega),rfl⟩
 ·go_enter Tryz.func64,Tryz.ntmps64
  go_wp2
  go_ret
  exact ⟨Zai (by simp; omega),rfl⟩
def okTo (xs:List Int) (k:Nat) (ok:Bool):Prop:=ok=true ↔ ∀ j,j < k->xs.getD j 0=clampI (xs.getD j 0)
theorem okTo_zero (xs:List Int):okTo xs 0 true:=⟨fun _ j hj=>by omega,fun _=>rfl⟩
theorem okTo_yes {xs:List Int} {k:Nat} {x:Int} (h:okTo xs k true) (hx:xs.getD k 0=x) (hc:clampI x=x):okTo xs (k+1) true :=
 ⟨fun _ j hj => by
  by_cases e:j=k
  ·subst e; rw [hx,hc]
  ·exact h.1 rfl j (by omega),fun _=>rfl⟩
theorem okTo_no {xs:List Int} {k:Nat} {x:Int} (hx:xs.getD k 0=x) (hc:¬ clampI x=x):okTo xs (k+1) false :=
 ⟨fun h=>(by cases h),fun h=>absurd (h k (by omega)) (by rw [hx]; exact fun e=>hc e.symm)⟩
theorem okTo_false {xs:List Int} {k:Nat} (h:okTo xs k false):okTo xs (k+1) false :=
 ⟨fun h=>(by cases h),fun g=>h.2 (fun j hj=>g j (by omega))⟩
theorem okTo_end {xs:List Int} {k:Nat} {ok:Bool} (h:okTo xs k ok) (hk:xs.length=k):ok=rightB xs:=by
 cases ok with
 | true=>exact (ZbC (fun j hj=>h.1 rfl j (by omega))).symm
 | false =>
   cases e:rightB xs with
   | false=>rfl
   | true=>exact h.2 (fun j _=>rightB_get e j)
theorem Zbs (a:Option Addr) (la ca:Nat) (xs:List Int) (w:World) (ha:Lst w a la ca xs) (h63:la<=9223372036854775807) :
  Calls Tryz.prog 101 #[.slice a la ca] w fun e w'=>e=.returned (.bool (rightB xs))/\∃ k,w'=w.drewN k:=by
 go_enter Tryz.func101,Tryz.ntmps101
 go_wp2
 go_loopw [3,4] (fun s i wr=>∃ (k n:Nat) (ok:Bool),k<=la/\i=.int .i64 k/\s=.bool ok/\okTo xs k ok/\wr=w.drewN n) (fun _ i _=>la - (intOf i).toNat)
 case atStart=>exact ⟨0,0,true,Nat.zero_le _,rfl,rfl,okTo_zero _,rfl⟩
 case round =>
  obtain ⟨k,n,ok,hk,rfl,rfl,hok,hw⟩:=hrel
  have ha':Lst wr a la ca xs:=hw ▸ ha.drewN n
  have HW:Hid (wr=w.drewN n):=hw
  have hlen:=ha.len
  clear hw ha
  by_cases hlt:k < la
  ·obtain ⟨b1,o1,x,rfl,_,c1,HX⟩:=ha'.at1 hlt
   cases ok with
   | true =>
     by_cases hx:clampI x=x
     ·have hx':(clampI x == x)=true:=by simpa using hx
      have HC:Hid (clampI x=x):=hx
      clear hx
      go_wp2
      go_quiet ((go_at_call 143; exact Calls.quiet_of_same (Zaq _ _)))
      go_wp2
      go_roundw
      case rel=>exact ⟨k+1,_,true,by omega,by go_num,rfl,okTo_yes hok HX.out HC.out,by rw [HW.out,World.drewN_drewN]⟩
      case measure=>simp [intOf]; omega
     ·have hx':(clampI x == x)=false:=by simpa using hx
      go_wp2
      go_quiet ((go_at_call 143; exact Calls.quiet_of_same (Zaq _ _)))
      go_wp2
      go_roundw
      case rel=>exact ⟨k+1,_,false,by omega,by go_num,rfl,okTo_no HX.out hx,by rw [HW.out,World.drewN_drewN]⟩
      case measure=>simp [intOf]; omega
   | false =>
     go_wp2
     go_quiet (fail)
     go_wp2
     go_roundw
     case rel=>exact ⟨k+1,_,false,by omega,by go_num,rfl,okTo_false hok,by rw [HW.out,World.drewN_drewN]⟩
     case measure=>simp [intOf]; omega
  ·go_wp2
   go_ret
   obtain rfl:k=la:=by omega
   exact ⟨Zai (okTo_end hok hlen),_,HW.out⟩
-- WALK
theorem Zca (c:Cfg) (w:World):Calls Tryz.prog 42 #[c.val] w fun e w'=>e=.returned (.int .i64 (cfgI c))/\Below w.heap.size w w':=by
 have hal:=(Below.refl w.heap.size w).alloc nr (.cells c.cells 50)
 obtain ⟨i,h,o,seed,batch,steps,rate,decay,how,keep,clip⟩:=c
 simp only [Cfg.val,Cfg.cells] at *
 unfold cfgI cfgB
 dsimp only
 obtain ⟨x1,X1⟩:=nm (inB i 1 4)
 obtain ⟨x2,X2⟩:=nm (inB h 1 4)
 obtain ⟨x3,X3⟩:=nm (inB o 1 4)
 obtain ⟨x4,X4⟩:=nm (inB batch 1 8)
 obtain ⟨x5,X5⟩:=nm (inB steps 1 40)
 obtain ⟨x6,X6⟩:=nm (inB rate 0 2147483647)
 obtain ⟨x7,X7⟩:=nm (inB decay 0 1)
 obtain ⟨x8,X8⟩:=nm (inB how 0 1)
 obtain ⟨x9,X9⟩:=nm (inB keep 0 65536)
 obtain ⟨x10,X10⟩:=nm (inB clip 0 2147483647)
 rw [X1.out,X2.out,X3.out,X4.out,X5.out,X6.out,X7.out,X8.out,X9.out,X10.out]
 obtain ⟨E,HE⟩:=nm (α:=Int) ((if (x1 && x2 && x3 && x4 && x5 && x6 && x7 && x8 && x9 && x10)=true then 0 else 1))
 rw [HE.out]
 go_enter Tryz.func42,Tryz.ntmps42
 go_wp2_with (go_at_call 64; refine (Zct _ _ _ _).mono ?_; rintro e w' ⟨rfl,hw'⟩; replace hw':=hw'.symm; subst hw'; first | rw [X1.out] | rw [X2.out] | rw [X3.out] | rw [X4.out] | rw [X5.out] | rw [X6.out] | rw [X7.out] | rw [X8.out] | rw [X9.out] | rw [X10.out])
 all_goals go_ret
 all_goals first | exact ⟨Zad ((bad1 (by first | with_reducible assumption | exact not_t (by with_reducible assumption) | exact no_t (by with_reducible assumption))).trans HE.out),hal⟩ | exact ⟨Zad ((bad2 (by first | with_reducible assumption | exact not_t (by with_reducible assumption) | exact no_t (by with_reducible assumption))).trans HE.out),hal⟩ | exact ⟨Zad ((bad3 (by first | with_reducible assumption | exact not_t (by with_reducible assumption) | exact no_t (by with_reducible assumption))).trans HE.out),hal⟩ | exact ⟨Zad ((bad4 (by first | with_reducible assumption | exact not_t (by with_reducible assumption) | exact no_t (by with_reducible assumption))).trans HE.out),hal⟩ | exact ⟨Zad ((bad5 (by first | with_reducible assumption | exact not_t (by with_reducible assumption) | exact no_t (by with_reducible assumption))).trans HE.out),hal⟩ | exact ⟨Zad ((bad6 (by first | with_reducible assumption | exact not_t (by with_reducible assumption) | exact no_t (by with_reducible assumption))).trans HE.out),hal⟩ | exact ⟨Zad ((bad7 (by first | with_reducible assumption | exact not_t (by with_reducible assumption) | exact no_t (by with_reducible assumption))).trans HE.out),hal⟩ | exact ⟨Zad ((bad8 (by first | with_reducible assumption | exact not_t (by with_reducible assumption) | exact no_t (by with_reducible assumption))).trans HE.out),hal⟩ | exact ⟨Zad ((bad9 (by first | with_reducible assumption | exact not_t (by with_reducible assumption) | exact no_t (by with_reducible assumption))).trans HE.out),hal⟩ | exact ⟨Zad ((bad10 (by first | with_reducible assumption | exact not_t (by with_reducible assumption) | exact no_t (by with_reducible assumption))).trans HE.out),hal⟩ | exact ⟨Zad ((bad0 (by first | with_reducible assumption | exact not_f (by with_reducible assumption)) (by first | with_reducible assumption | exact not_f (by with_reducible assumption)) (by first | with_reducible assumption | exact not_f (by with_reducible assumption)) (by first | with_reducible assumption | exact not_f (by with_reducible assumption)) (by first | with_reducible assumption | exact not_f (by with_reducible assumption)) (by first | with_reducible assumption | exact not_f (by with_reducible assumption)) (by first | with_reducible assumption | exact not_f (by with_reducible assumption)) (by first | with_reducible assumption | exact not_f (by with_reducible assumption)) (by first | with_reducible assumption | exact not_f (by with_reducible assumption)) (by first | with_reducible assumption | exact not_f (by with_reducible assumption))).trans HE.out),hal⟩
-- END WALK
theorem rrate_calls (c:Cfg) (step:Int) (w:World) (h0:1<=c.steps) (h1:c.steps<=40) (h2:0<=step) (h3:step<=40) :
  Calls Tryz.prog 151 #[c.val,.int .i64 step] w fun e w'=>e=.returned (.int .i64 (rateV c step))/\Below w.heap.size w w':=by
 have hal:=(Below.refl w.heap.size w).alloc nr (.cells c.cells 50)
 unfold rateV
 obtain ⟨i,h,o,seed,batch,steps,rate,decay,how,keep,clip⟩:=c
 simp only [Cfg.val,Cfg.cells] at *
 by_cases hd:decay=1
 ·have hd':(decay == 1)=true:=by simpa using hd
  rw [if_pos hd]
  clear hd
  have hw:IntKind.i64.wrap (steps - step)=steps - step:=ZaK _ (by omega) (by omega)
  go_enter Tryz.func151,Tryz.ntmps151
  go_wp2
  go_quiet ((first | (go_at_call 154; exact Calls.quiet_of_same (rdiv_calls _ _ _ (by omega))) | (go_at_call 111; exact Calls.quiet_of_same (Zbc _ _ _))))
  go_wp2
  go_ret
  exact ⟨rfl,Zab hal _⟩
 ·have hd':(decay == 1)=false:=by simpa using hd
  rw [if_neg hd]
  clear hd
  go_enter Tryz.func151,Tryz.ntmps151
  go_wp2
  go_ret
  exact ⟨rfl,hal⟩
end Go.Proofs.YthmiojmlaclgaaaGreatDoor.Fx
