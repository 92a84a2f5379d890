/- What the law stands on: RefTrA TrnC PupI TrnD. -/
import Derived.Test.YthmiojmlaclgaaaGreatDoorJ00
import Derived.Test.YthmiojmlaclgaaaGreatDoorJ04
import Derived.Test.YthmiojmlaclgaaaGreatDoorJ09
import Derived.Test.YthmiojmlaclgaaaGreatDoorJ08
import Derived.Test.YthmiojmlaclgaaaGreatDoorJ05
import Derived.Deep.RegionHeld3
set_option maxRecDepth 100000
set_option maxHeartbeats 12800000
namespace Go.Proofs.YthmiojmlaclgaaaGreatDoor.Fx
open Go.RowKit
theorem course_bad {c:Cfg} {n:Nat} {X:Nat->Exm} {DI DO:Nat->List Int} (hc:cfgB c=true) (h0:n ≠ 0) (h1:n<=16) {i:Nat} (hi:i < n) (h:exB c (X i) (DI i) (DO i)=false):courseI c n X DI DO=5:=by
 unfold courseI
 rw [if_pos hc,if_neg h0,if_neg (by omega),if_neg (by rw [allEx_no hi h]; decide)]
theorem Zcb (c:Cfg) (a:Option Addr) (n cap:Nat) (X:Nat->Exm) (DI DO:Nat->List Int) (w:World) (hx:Exs w a n cap X DI DO) :
  Calls Tryz.prog 65 #[c.val,.slice a n cap] w fun e w'=>e=.returned (.int .i64 (courseI c n X DI DO))/\Below w.heap.size w w':=by
 have hal:=Zac w (.cells c.cells 50)
 have HRC:Hid (∀ q,Calls Tryz.prog 42 #[c.val] q fun e w'=>e=.returned (.int .i64 (cfgI c))/\Below q.heap.size q w'):=fun q=>Zca c q
 cases hc:cfgB c with
 | false =>
   have hE:courseI c n X DI DO=1:=by unfold courseI; rw [hc]; rfl
   rw [hE]
   rw [cfgI_no hc] at HRC
   clear hE hc hx
   obtain ⟨i,h,o,seed,batch,steps,rate,decay,how,keep,clip⟩:=c
   simp only [Cfg.val,Cfg.cells] at *
   go_enter Tryz.func65,Tryz.ntmps65
   go_wp2_with fail
   refine (HRC.out _).mono ?_
   rintro e w1 ⟨rfl,hw1⟩
   go_wp2
   go_ret
   exact ⟨rfl,hal.trans (hw1.mono hal.size)⟩
 | true =>
   rw [ZcC hc] at HRC
   by_cases h0:n=0
   ·have hE:courseI c n X DI DO=1:=by unfold courseI; rw [hc,if_pos rfl,if_pos h0]
    rw [hE]
    have hn:((n:Int) == 0)=true:=by rw [beq_iff_eq]; omega
    clear hE hc hx h0
    obtain ⟨i,h,o,seed,batch,steps,rate,decay,how,keep,clip⟩:=c
    simp only [Cfg.val,Cfg.cells] at *
    go_enter Tryz.func65,Tryz.ntmps65
    go_wp2_with fail
    refine (HRC.out _).mono ?_
    rintro e w1 ⟨rfl,hw1⟩
    go_wp2
    go_ret
    exact ⟨rfl,hal.trans (hw1.mono hal.size)⟩
   ·have hn:((n:Int) == 0)=false:=by rw [beq_eq_false_iff_ne]; omega
    by_cases h1:16 < n
    ·have hE:courseI c n X DI DO=2:=by unfold courseI; rw [hc,if_pos rfl,if_neg h0,if_pos h1]
     rw [hE]
     have h2:(16:Int) < (n:Int):=by omega
     clear hE hc hx h0
     obtain ⟨i,h,o,seed,batch,steps,rate,decay,how,keep,clip⟩:=c
     simp only [Cfg.val,Cfg.cells] at *
     go_enter Tryz.func65,Tryz.ntmps65
     go_wp2_with fail
     refine (HRC.out _).mono ?_
     rintro e w1 ⟨rfl,hw1⟩
     go_wp2
     go_ret
     exact ⟨rfl,hal.trans (hw1.mono hal.size)⟩
    ·have h2:¬ (16:Int) < (n:Int):=by omega
     have HBAD:Hid (∀ i,i < n->exB c (X i) (DI i) (DO i)=false->courseI c n X DI DO=5):=fun i hi hb=>course_bad hc h0 (by omega) hi hb
     have HOK:Hid ((∀ i,i < n->exB c (X i) (DI i) (DO i)=true)->courseI c n X DI DO=0):=fun hb=>by unfold courseI; rw [hc,if_pos rfl,if_neg h0,if_neg h1,if_pos (allEx_yes hb)]
     obtain ⟨E,hE⟩:∃ E,courseI c n X DI DO=E:=⟨_,rfl⟩
     rw [hE] at HBAD HOK ⊢
     have hside:=Zal hc
     have i4:=hside.1.2
     have o4:=hside.2.2.1.2
     have hx1:=hx.below hal nr
     have KB:Hid (∀ q,Below (w.alloc (.cells c.cells 50)).heap.size (w.alloc (.cells c.cells 50)) q->BoxC q w.heap.size c):=fun q hq=>boxC hq (by simp)
     clear hE hc hx hside h0
     obtain ⟨i,h,o,seed,batch,steps,rate,decay,how,keep,clip⟩:=c
     simp only [Cfg.val,Cfg.cells] at *
     go_enter Tryz.func65,Tryz.ntmps65
     go_wp2_with fail
     refine (HRC.out _).mono ?_
     rintro e w1 ⟨rfl,hw1⟩
     have hx2:=hx1.below hw1 nr
     obtain ⟨c0,c1,c2,c3,c4,c5,c6,c7,c8,c9,c10⟩:=KB.out _ hw1
     have hb1:=hal.trans (hw1.mono hal.size)
     clear hx1 hw1 hal KB HRC c1 c3 c4 c5 c6 c7 c8 c9 c10
     dsimp only at c0 c2
     go_wp2_with fail
     go_loopw [6] (fun v wr=>∃ k nq:Nat,k<=n/\v=.int .i64 k/\Hid (∀ j,j < k->exB ⟨i,h,o,seed,batch,steps,rate,decay,how,keep,clip⟩ (X j) (DI j) (DO j)=true)/\wr=w1.drewN nq) (fun v _=>n - (intOf v).toNat)
     case atStart=>exact ⟨0,0,Nat.zero_le _,rfl,fun j hj=>by omega,rfl⟩
     case round =>
      obtain ⟨k,nq0,hk,rfl,hg,hwq⟩:=hrel
      have hx3:Exs wr a n cap X DI DO:=by rw [hwq]; exact hx2.drewN _
      have d0:wr.cell? ⟨w.heap.size,0,none⟩=some (.int .i64 i):=by rw [hwq]; exact c0
      have d2:wr.cell? ⟨w.heap.size,2,none⟩=some (.int .i64 o):=by rw [hwq]; exact c2
      have HW:Hid (wr=w1.drewN nq0):=hwq
      clear hwq hx2 c0 c2
      by_cases hlt:k < n
      ·obtain ⟨b,off,rfl,e1,e2,hin⟩:=hx3.at hlt
       have hbad:=HBAD.out k hlt
       have hgood:exB ⟨i,h,o,seed,batch,steps,rate,decay,how,keep,clip⟩ (X k) (DI k) (DO k)=true->∀ j,j < k+1->exB ⟨i,h,o,seed,batch,steps,rate,decay,how,keep,clip⟩ (X j) (DI j) (DO j)=true:=fun g j hj=>by
        by_cases e:j=k
        ·subst e; exact g
        ·exact hg.out j (by omega)
       obtain ⟨x,hxk⟩:∃ x,X k=x:=⟨_,rfl⟩
       rw [hxk] at e1 e2 hin hbad hgood
       obtain ⟨xa,xn,xk,xb,xm,xt⟩:=x
       obtain ⟨lI,lO⟩:=hin
       dsimp only at e1 e2 lI lO
       have HB:Hid (exB ⟨i,h,o,seed,batch,steps,rate,decay,how,keep,clip⟩ ⟨xa,xn,xk,xb,xm,xt⟩ (DI k) (DO k)=false->E=5):=hbad
       have HG:Hid (exB ⟨i,h,o,seed,batch,steps,rate,decay,how,keep,clip⟩ ⟨xa,xn,xk,xb,xm,xt⟩ (DI k) (DO k)=true->∀ j,j < k+1->exB ⟨i,h,o,seed,batch,steps,rate,decay,how,keep,clip⟩ (X j) (DI j) (DO j)=true):=hgood
       clear hbad hgood hxk hx3 HBAD HOK hg
       by_cases u1:(xn:Int)=i
       ·have v1:((xn:Int) != i)=false:=by rw [bne_eq_false_iff_eq]; exact u1
        have x4:xn<=4:=by omega
        have U1:Hid ((xn:Int)=i):=u1
        clear u1
        by_cases u2:(xm:Int)=o
        ·have v2:((xm:Int) != o)=false:=by rw [bne_eq_false_iff_eq]; exact u2
         have y4:xm<=4:=by omega
         have U2:Hid ((xm:Int)=o):=u2
         clear u2
         cases r1:rightB (DI k) with
         | false =>
           have R1:Hid (rightB (DI k)=false):=r1
           have HR1:Hid (∀ q,Lst q xa xn xk (DI k)->Calls Tryz.prog 101 #[.slice xa xn xk] q fun e w'=>e=.returned (.bool false)/\∃ k,w'=q.drewN k):=fun q hq=>by
            have g:=Zbs xa xn xk (DI k) q hq (by omega)
            rw [r1] at g
            exact g
           clear r1
           go_wp2_with fail
           go_quiet ((go_at_call_of 101 (Value.slice xa xn xk); exact Calls.quiet_of (HR1.out _ (lI.drewN _))))
           go_wp2
           go_ret
           exact ⟨Zad (HB.out (by simp [exB,R1.out])).symm,by rw [HW.out]; exact Zab (Zab hb1 _) _⟩
         | true =>
           cases r2:rightB (DO k) with
           | false =>
             have R1:Hid (rightB (DI k)=true):=r1
             have R2:Hid (rightB (DO k)=false):=r2
             have HR1:Hid (∀ q,Lst q xa xn xk (DI k)->Calls Tryz.prog 101 #[.slice xa xn xk] q fun e w'=>e=.returned (.bool true)/\∃ k,w'=q.drewN k):=fun q hq=>by
              have g:=Zbs xa xn xk (DI k) q hq (by omega)
              rw [r1] at g
              exact g
             have HR2:Hid (∀ q,Lst q xb xm xt (DO k)->Calls Tryz.prog 101 #[.slice xb xm xt] q fun e w'=>e=.returned (.bool false)/\∃ k,w'=q.drewN k):=fun q hq=>by
              have g:=Zbs xb xm xt (DO k) q hq (by omega)
              rw [r2] at g
              exact g
             go_wp2_with fail
             go_quiet ((first | (go_at_call_of 101 (Value.slice xa xn xk); exact Calls.quiet_of (HR1.out _ (lI.drewN _))) | (go_at_call_of 101 (Value.slice xb xm xt); exact Calls.quiet_of (HR2.out _ (lO.drewN _)))))
             go_wp2
             go_ret
             exact ⟨Zad (HB.out (by simp [exB,R2.out])).symm,by rw [HW.out]; exact Zab (Zab hb1 _) _⟩
           | true =>
             have R1:Hid (rightB (DI k)=true):=r1
             have R2:Hid (rightB (DO k)=true):=r2
             have HR1:Hid (∀ q,Lst q xa xn xk (DI k)->Calls Tryz.prog 101 #[.slice xa xn xk] q fun e w'=>e=.returned (.bool true)/\∃ k,w'=q.drewN k):=fun q hq=>by
              have g:=Zbs xa xn xk (DI k) q hq (by omega)
              rw [r1] at g
              exact g
             have HR2:Hid (∀ q,Lst q xb xm xt (DO k)->Calls Tryz.prog 101 #[.slice xb xm xt] q fun e w'=>e=.returned (.bool true)/\∃ k,w'=q.drewN k):=fun q hq=>by
              have g:=Zbs xb xm xt (DO k) q hq (by omega)
              rw [r2] at g
              exact g
             clear r1 r2
             go_wp2_with fail
             go_quiet ((first | (go_at_call_of 101 (Value.slice xa xn xk); exact Calls.quiet_of (HR1.out _ (lI.drewN _))) | (go_at_call_of 101 (Value.slice xb xm xt); exact Calls.quiet_of (HR2.out _ (lO.drewN _)))))
             go_wp2_with fail
             go_roundw
             case rel=>exact ⟨k+1,_,by omega,by go_num,HG.out (by simp [exB,R1.out,R2.out,U1.out,U2.out]),by rw [HW.out,World.drewN_drewN]⟩
             case measure=>simp [intOf]; omega
        ·have v2:((xm:Int) != o)=true:=by rw [bne_iff_ne]; exact u2
         have U2:Hid (¬ (xm:Int)=o):=u2
         clear u2
         go_wp2_with fail
         go_quiet (fail)
         go_wp2
         go_ret
         exact ⟨Zad (HB.out (by simp [exB,U2.out])).symm,by rw [HW.out]; exact Zab (Zab hb1 _) _⟩
       ·have v1:((xn:Int) != i)=true:=by rw [bne_iff_ne]; exact u1
        have U1:Hid (¬ (xn:Int)=i):=u1
        clear u1
        go_wp2_with fail
        go_quiet (fail)
        go_wp2
        go_ret
        exact ⟨Zad (HB.out (by simp [exB,U1.out])).symm,by rw [HW.out]; exact Zab (Zab hb1 _) _⟩
      ·obtain rfl:k=n:=by omega
       go_wp2
       go_ret
       exact ⟨Zad (HOK.out hg.out).symm,by rw [HW.out]; exact Zab hb1 _⟩
theorem Zbd (c:Cfg) (a:Option Addr) (n cap:Nat) (X:Nat->Exm) (DI DO:Nat->List Int) (w:World) (hx:Exs w a n cap X DI DO) :
  Calls Tryz.prog 83 #[c.val,.slice a n cap] w fun e w'=>e=.returned (.int .i64 (courseI c n X DI DO))/\Below w.heap.size w w':=by
 have hal:=Zac w (.cells c.cells 50)
 have HRC:Hid (∀ q,Calls Tryz.prog 55 #[c.val] q fun e w'=>e=.returned (.int .i64 (cfgI c))/\Below q.heap.size q w'):=fun q=>Zbb c q
 cases hc:cfgB c with
 | false =>
   have hE:courseI c n X DI DO=1:=by unfold courseI; rw [hc]; rfl
   rw [hE]
   rw [cfgI_no hc] at HRC
   clear hE hc hx
   obtain ⟨i,h,o,seed,batch,steps,rate,decay,how,keep,clip⟩:=c
   simp only [Cfg.val,Cfg.cells] at *
   go_enter Tryz.func83,Tryz.ntmps83
   go_wp2_with fail
   refine (HRC.out _).mono ?_
   rintro e w1 ⟨rfl,hw1⟩
   go_wp2
   go_ret
   exact ⟨rfl,hal.trans (hw1.mono hal.size)⟩
 | true =>
   rw [ZcC hc] at HRC
   by_cases h0:n=0
   ·have hE:courseI c n X DI DO=1:=by unfold courseI; rw [hc,if_pos rfl,if_pos h0]
    rw [hE]
    have hn:((n:Int) == 0)=true:=by rw [beq_iff_eq]; omega
    clear hE hc hx h0
    obtain ⟨i,h,o,seed,batch,steps,rate,decay,how,keep,clip⟩:=c
    simp only [Cfg.val,Cfg.cells] at *
    go_enter Tryz.func83,Tryz.ntmps83
    go_wp2_with fail
    refine (HRC.out _).mono ?_
    rintro e w1 ⟨rfl,hw1⟩
    go_wp2
    go_ret
    exact ⟨rfl,hal.trans (hw1.mono hal.size)⟩
   ·have hn:((n:Int) == 0)=false:=by rw [beq_eq_false_iff_ne]; omega
    by_cases h1:16 < n
    ·have hE:courseI c n X DI DO=2:=by unfold courseI; rw [hc,if_pos rfl,if_neg h0,if_pos h1]
     rw [hE]
     have h2:(16:Int) < (n:Int):=by omega
     clear hE hc hx h0
     obtain ⟨i,h,o,seed,batch,steps,rate,decay,how,keep,clip⟩:=c
     simp only [Cfg.val,Cfg.cells] at *
     go_enter Tryz.func83,Tryz.ntmps83
     go_wp2_with fail
     refine (HRC.out _).mono ?_
     rintro e w1 ⟨rfl,hw1⟩
     go_wp2
     go_ret
     exact ⟨rfl,hal.trans (hw1.mono hal.size)⟩
    ·have h2:¬ (16:Int) < (n:Int):=by omega
     have HBAD:Hid (∀ i,i < n->exB c (X i) (DI i) (DO i)=false->courseI c n X DI DO=5):=fun i hi hb=>course_bad hc h0 (by omega) hi hb
     have HOK:Hid ((∀ i,i < n->exB c (X i) (DI i) (DO i)=true)->courseI c n X DI DO=0):=fun hb=>by unfold courseI; rw [hc,if_pos rfl,if_neg h0,if_neg h1,if_pos (allEx_yes hb)]
     obtain ⟨E,hE⟩:∃ E,courseI c n X DI DO=E:=⟨_,rfl⟩
     rw [hE] at HBAD HOK ⊢
     have hside:=Zal hc
     have i4:=hside.1.2
     have o4:=hside.2.2.1.2
     have hx1:=hx.below hal nr
     have KB:Hid (∀ q,Below (w.alloc (.cells c.cells 50)).heap.size (w.alloc (.cells c.cells 50)) q->BoxC q w.heap.size c):=fun q hq=>boxC hq (by simp)
     clear hE hc hx hside h0
     obtain ⟨i,h,o,seed,batch,steps,rate,decay,how,keep,clip⟩:=c
     simp only [Cfg.val,Cfg.cells] at *
     go_enter Tryz.func83,Tryz.ntmps83
     go_wp2_with fail
     refine (HRC.out _).mono ?_
     rintro e w1 ⟨rfl,hw1⟩
     have hx2:=hx1.below hw1 nr
     have KB2:Hid (∀ q,Below w1.heap.size w1 q->BoxC q w.heap.size ⟨i,h,o,seed,batch,steps,rate,decay,how,keep,clip⟩):=fun q hq=>KB.out q (hw1.trans (hq.mono hw1.size))
     have hb1:=hal.trans (hw1.mono hal.size)
     clear hx1 hw1 hal KB HRC
     go_wp2_with fail
     go_loopw [21] (fun v wr=>∃ k:Nat,k<=n/\v=.int .i64 k/\Hid (∀ j,j < k->exB ⟨i,h,o,seed,batch,steps,rate,decay,how,keep,clip⟩ (X j) (DI j) (DO j)=true)/\Below w1.heap.size w1 wr) (fun v _=>n - (intOf v).toNat)
     case atStart=>exact ⟨0,Nat.zero_le _,rfl,fun j hj=>by omega,br⟩
     case round =>
      obtain ⟨k,hk,rfl,hg,hwr⟩:=hrel
      have hx3:Exs wr a n cap X DI DO:=hx2.below hwr nr
      have hz:=hwr.size
      by_cases hlt:k < n
      ·obtain ⟨b,off,rfl,e1,e2,hin⟩:=hx3.at hlt
       have hbad:=HBAD.out k hlt
       have hgood:exB ⟨i,h,o,seed,batch,steps,rate,decay,how,keep,clip⟩ (X k) (DI k) (DO k)=true->∀ j,j < k+1->exB ⟨i,h,o,seed,batch,steps,rate,decay,how,keep,clip⟩ (X j) (DI j) (DO j)=true:=fun g j hj=>by
        by_cases e:j=k
        ·subst e; exact g
        ·exact hg.out j (by omega)
       obtain ⟨x,hxk⟩:∃ x,X k=x:=⟨_,rfl⟩
       rw [hxk] at e1 e2 hin hbad hgood
       obtain ⟨xa,xn,xk,xb,xm,xt⟩:=x
       dsimp only at e1 e2
       have hq:=hwr.alloc hwr.size (.cells #[.slice xa xn xk,.slice xb xm xt] 78)
       have hlow:=Zac wr (.cells #[.slice xa xn xk,.slice xb xm xt] 78)
       have ⟨c0,_,c2,_,_,_,_,_,_,_,_⟩:=KB2.out _ hq
       dsimp only at c0 c2
       obtain ⟨lI,lO⟩:=hin.below hlow nr
       dsimp only at lI lO
       have HL1:Hid (Calls Tryz.prog 124 #[.slice xa xn xk,.int .i64 i] (wr.alloc (.cells #[.slice xa xn xk,.slice xb xm xt] 78)) fun e w'=>e=.returned (.bool (decide ((xn:Int)=i) && rightB (DI k)))/\w'=wr.alloc (.cells #[.slice xa xn xk,.slice xb xm xt] 78)):=ZbH xa xn xk (DI k) i _ lI (by omega)
       have HL2:Hid (Calls Tryz.prog 124 #[.slice xb xm xt,.int .i64 o] (wr.alloc (.cells #[.slice xa xn xk,.slice xb xm xt] 78)) fun e w'=>e=.returned (.bool (decide ((xm:Int)=o) && rightB (DO k)))/\w'=wr.alloc (.cells #[.slice xa xn xk,.slice xb xm xt] 78)):=ZbH xb xm xt (DO k) o _ lO (by omega)
       have hex:exB ⟨i,h,o,seed,batch,steps,rate,decay,how,keep,clip⟩ ⟨xa,xn,xk,xb,xm,xt⟩ (DI k) (DO k)=((decide ((xn:Int)=i) && rightB (DI k)) && (decide ((xm:Int)=o) && rightB (DO k))):=by
        unfold exB
        dsimp only
        cases decide ((xn:Int)=i) <;> cases decide ((xm:Int)=o) <;> cases rightB (DI k) <;> cases rightB (DO k) <;> rfl
       rw [hex] at hbad hgood
       generalize (decide ((xn:Int)=i) && rightB (DI k))=p1 at *
       generalize (decide ((xm:Int)=o) && rightB (DO k))=p2 at *
       have HB:Hid ((p1 && p2)=false->E=5):=hbad
       have HG:Hid ((p1 && p2)=true->∀ j,j < k+1->exB ⟨i,h,o,seed,batch,steps,rate,decay,how,keep,clip⟩ (X j) (DI j) (DO j)=true):=hgood
       clear hbad hgood hxk hx3 HBAD HOK hg hex lI lO hin
       cases p1 with
       | false =>
         go_wp2_with (go_at_call 124; refine HL1.out.mono ?_; rintro e w' ⟨rfl,hw'⟩; subst hw')
         go_ret
         exact ⟨Zad (HB.out rfl).symm,hb1.trans (hq.mono hb1.size)⟩
       | true =>
         cases p2 with
         | false =>
           go_wp2_with (first | (go_at_call_of 124 (Value.slice xa xn xk); refine HL1.out.mono ?_; rintro e w' ⟨rfl,hw'⟩; subst hw') | (go_at_call_of 124 (Value.slice xb xm xt); refine HL2.out.mono ?_; rintro e w' ⟨rfl,hw'⟩; subst hw'))
           go_ret
           exact ⟨Zad (HB.out rfl).symm,hb1.trans (hq.mono hb1.size)⟩
         | true =>
           go_wp2_with (first | (go_at_call_of 124 (Value.slice xa xn xk); refine HL1.out.mono ?_; rintro e w' ⟨rfl,hw'⟩; subst hw') | (go_at_call_of 124 (Value.slice xb xm xt); refine HL2.out.mono ?_; rintro e w' ⟨rfl,hw'⟩; subst hw'))
           go_roundw
           case rel=>exact ⟨k+1,by omega,by go_num,HG.out rfl,hq⟩
           case measure=>simp [intOf]; omega
      ·obtain rfl:k=n:=by omega
       go_wp2
       go_ret
       exact ⟨Zad (HOK.out hg.out).symm,hb1.trans (hwr.mono hb1.size)⟩
theorem pgrad_at (I H O:Nat) (a1:Option Addr) (k1:Nat) (a2:Option Addr) (k2:Nat) (d1:Option Addr) (e1:Nat) (d2:Option Addr) (e2:Nat) (d:PD) (v:Option Addr) (cv:Nat) (xs:List Int) (u:Option Addr) (cu:Nat) (ys:List Int) (w:World) (h:InPup w (rpup I H O a1 k1 a2 k2 d1 e1 d2 e2) d) (hv:Lst w v I cv xs) (hu:Lst w u O cu ys) (hr:RightD d) (i1:1<=I) (i2:I<=4) (j1:1<=H) (j2:H<=4) (o1:1<=O) (o2:O<=4) :
  Calls Tryz.prog 187 #[(rpup I H O a1 k1 a2 k2 d1 e1 d2 e2).val,.agg #[.slice v I cv,.slice u O cu]] w fun e w'=>∃ g1 g2 g3 g4:Nat,e=.returned (.tuple #[(rpup I H O (some ⟨g1,0,none⟩) (H * I) (some ⟨g2,0,none⟩) (O * H) (some ⟨g3,0,none⟩) H (some ⟨g4,0,none⟩) O).val,.int .i64 0])/\(w.heap.size<=g1/\w.heap.size<=g2/\w.heap.size<=g3/\w.heap.size<=g4)/\InPup w' (rpup I H O (some ⟨g1,0,none⟩) (H * I) (some ⟨g2,0,none⟩) (O * H) (some ⟨g3,0,none⟩) H (some ⟨g4,0,none⟩) O) (graD d xs ys I H O)/\Below w.heap.size w w':=by
 have hal0:=Zac w (.cells (rpup I H O a1 k1 a2 k2 d1 e1 d2 e2).cells 102)
 have hal1:=hal0.alloc hal0.size (.cells #[.slice v I cv,.slice u O cu] 78)
 have hal:=hal1.alloc hal1.size (.cells #[.int .i64 0,.int .i64 0,.slice none 0 0,.int .i64 0,.int .i64 0,.slice none 0 0,.slice none 0 0,.slice none 0 0] 102)
 have hst:=ZaF ((w.alloc (.cells (rpup I H O a1 k1 a2 k2 d1 e1 d2 e2).cells 102)).alloc (.cells #[.slice v I cv,.slice u O cu] 78)) (.int .i64 0) (.int .i64 0) (.slice none 0 0) (.int .i64 0) (.int .i64 0) (.slice none 0 0) (.slice none 0 0) (.slice none 0 0) 102
 have hc0:=pboth_calls _ d ⟨v,I,cv,u,O,cu⟩ _ (h.below hal nr)
 have hz:exI (rpup I H O a1 k1 a2 k2 d1 e1 d2 e2) d I O=0:=by
  unfold exI
  rw [if_pos (pchk_right i1 i2 j1 j2 o1 o2 hr),if_pos ⟨rfl,rfl⟩]
 rw [hz] at hc0
 have HC1:Hid (∀ q,Below w.heap.size w q->Calls Tryz.prog 96 #[(rpup I H O a1 k1 a2 k2 d1 e1 d2 e2).val,.slice v I cv] q fun e w'=>∃ ah ay,e=.returned (.tuple #[.slice ah H H,.slice ay O O])/\Lst w' ah H H (hidL d xs I H)/\Lst w' ay O O (outYL d xs I H O)/\Below q.heap.size q w') :=
  fun q hq=>forward_calls I H O a1 k1 a2 k2 d1 e1 d2 e2 d v cv xs q (h.below hq nr) (hv.below hq nr) hr i1 i2 j1 j2 o1 o2
 have HC2:Hid (∀ q ad,Below w.heap.size w q->Lst q ad O O (difL d xs ys I H O)->Calls Tryz.prog 219 #[.agg #[.int .i64 O,.int .i64 H,.slice a2 (O * H) k2],.slice ad O O] q fun e w'=>∃ g,e=.returned (.tuple #[.slice (some ⟨g,0,none⟩) H H,.int .i64 0])/\q.heap.size<=g/\w'.rowIs g 3 H (rowTo (backG d.X2 (difL d xs ys I H O) O H) H)/\Below q.heap.size q w') :=
  fun q ad hq hl=>vBack_row O H a2 k2 d.X2 ad O _ q (h.below hq nr).x2 hl o1 o2 j1 j2 hr.2.1
 have HV:Hid (∀ q,Below w.heap.size w q->Lst q v I cv xs):=fun q hq=>hv.below hq nr
 have HU:Hid (∀ q,Below w.heap.size w q->Lst q u O cu ys):=fun q hq=>hu.below hq nr
 clear h hv hu hz hal0 hal1
 simp only [Pup.val,Pup.cells,rpup,Exm.val] at *
 simp at hst
 generalize hB:(((w.alloc (.cells #[.int .i64 H,.int .i64 I,.slice a1 (H * I) k1,.int .i64 O,.int .i64 H,.slice a2 (O * H) k2,.slice d1 H e1,.slice d2 O e2] 102)).alloc (.cells #[.slice v I cv,.slice u O cu] 78)).alloc (.cells #[.int .i64 0,.int .i64 0,.slice none 0 0,.int .i64 0,.int .i64 0,.slice none 0 0,.slice none 0 0,.slice none 0 0] 102))=W3 at hal hst hc0
 have hWs:W3.heap.size=w.heap.size+1+1+1:=by rw [← hB]; simp
 have KA:Hid (∀ q,Below W3.heap.size W3 q->Box8 q w.heap.size (.int .i64 H) (.int .i64 I) (.slice a1 (H * I) k1) (.int .i64 O) (.int .i64 H) (.slice a2 (O * H) k2) (.slice d1 H e1) (.slice d2 O e2)):=by
  intro q hq
  rw [hWs,← hB] at hq
  exact boxA (B:=w.heap.size+1) ((br.alloc (by simp) _).trans (hq.mono (by omega))) (by omega)
 have KE:Hid (∀ q,Below W3.heap.size W3 q->q.cell? ⟨w.heap.size+1,0,none⟩=some (.slice v I cv)/\q.cell? ⟨w.heap.size+1,1,none⟩=some (.slice u O cu)):=by
  intro q hq
  rw [hWs,← hB] at hq
  exact boxE (B:=w.heap.size+1+1) ((br.alloc (by simp) _).trans (hq.mono (by omega))) (by omega)
 have KR:Hid (∀ q,Below W3.heap.size W3 q->q.rowIs (w.heap.size+1+1) 102 8 (fn8 (.int .i64 0) (.int .i64 0) (.slice none 0 0) (.int .i64 0) (.int .i64 0) (.slice none 0 0) (.slice none 0 0) (.slice none 0 0))):=fun q hq=>Zbg hst hq (by omega)
 have KW:Hid (∀ q,Below W3.heap.size W3 q->Below w.heap.size w q):=fun q hq=>hal.trans (hq.mono hal.size)
 have hB':(((w.alloc (.cells #[.int .i64 H,.int .i64 I,.slice a1 (H * I) k1,.int .i64 O,.int .i64 H,.slice a2 (O * H) k2,.slice d1 H e1,.slice d2 O e2] 102)).alloc (.cells #[.slice v I cv,.slice u O cu] 78)).alloc (.cells #[.int .i64 0,.int .i64 0,.slice none 0 0,.int .i64 0,.int .i64 0,.slice none 0 0,.slice none 0 0,.slice none 0 0] 102))=W3:=hB
 have HB:Hid ((((w.alloc (.cells #[.int .i64 H,.int .i64 I,.slice a1 (H * I) k1,.int .i64 O,.int .i64 H,.slice a2 (O * H) k2,.slice d1 H e1,.slice d2 O e2] 102)).alloc (.cells #[.slice v I cv,.slice u O cu] 78)).alloc (.cells #[.int .i64 0,.int .i64 0,.slice none 0 0,.int .i64 0,.int .i64 0,.slice none 0 0,.slice none 0 0,.slice none 0 0] 102))=W3):=hB
 clear hB hB' hst hal
 have s1:=Zae j2 i2
 have s2:=Zae o2 j2
 go_enter Tryz.func187,Tryz.ntmps187
 go_wp2_with fail
 rw [HB.out]
 refine hc0.mono ?_
 rintro e w1 ⟨rfl,T1⟩
 obtain ⟨f0,f1,f2,f3,f4,f5,f6,f7⟩:=KA.out _ T1
 obtain ⟨x0,x1⟩:=KE.out _ T1
 have hc1:=HC1.out _ (KW.out _ T1)
 clear hc0
 go_wp2_with fail
 refine hc1.mono ?_
 rintro e w2 ⟨ah,ay,rfl,hh,hy,hw2⟩
 have T2:=T1.trans (hw2.mono T1.size)
 clear hc1 hw2 T1 f0 f1 f2 f3 f4 f5 f6 f7 x0 x1
 obtain ⟨x0,x1⟩:=KE.out _ T2
 have hc2:=less_calls ay u O O cu _ ys w2 hy (HU.out _ (KW.out _ T2)) (by omega)
 go_wp2_with fail
 refine hc2.mono ?_
 rintro e w3 ⟨gd,rfl,hgd,hd,hw3⟩
 have hh3:=hh.below hw3 nr
 have T3:=T2.trans (hw3.mono T2.size)
 have hd3:Lst w3 (some ⟨gd,0,none⟩) O O (difL d xs ys I H O):=hd
 have hgd':W3.heap.size<=gd:=Nat.le_trans T2.size hgd
 have hg3':W3.heap.size<=w3.heap.size:=T3.size
 clear hc2 hw3 T2 x0 x1 hh hy hd
 obtain ⟨f0,f1,f2,f3,f4,f5,f6,f7⟩:=KA.out _ T3
 have hc3:=HC2.out _ (some ⟨gd,0,none⟩) (KW.out _ T3) hd3
 go_wp2_with fail
 refine hc3.mono ?_
 rintro e w4 ⟨g,rfl,hg,hrow,hw4⟩
 clear hc3 f0 f1 f2 f3 f4 f5 f6 f7
 go_wp2
 go_loopw [44] (fun i wr=>∃ k:Nat,k<=H/\i=.int .i64 k/\wr.rowIs g 3 H (midTo (graG d xs ys I H O) (backG d.X2 (difL d xs ys I H O) O H) k)/\Below w3.heap.size w3 wr) (fun i _=>H - (intOf i).toNat)
 case atStart=>exact ⟨0,Nat.zero_le _,rfl,ZcT hrow,hw4⟩
 case round =>
  obtain ⟨k,hk,rfl,hrow,hbel⟩:=hrel
  by_cases hlt:k < H
  ·have c3:=midTo_cell hrow hlt
   have f3:=hrow.frozen k
   obtain ⟨b1,o1',x,rfl,sb1,c1,HX⟩:=hh3.at1b hbel nr hlt
   by_cases hx:x=0
   ·have hx':(x == 0)=true:=by simpa using hx
    have HG:Hid (graG d xs ys I H O k=0):=by show (if (hidL d xs I H).getD k 0=0 then 0 else backG d.X2 (difL d xs ys I H O) O H k)=0; rw [HX.out]; exact if_pos hx
    clear hx
    go_wp2
    go_roundw
    case rel =>
     have st:=ZcF hrow
     rw [HG.out] at st
     exact ⟨k+1,by omega,by go_num,st,hbel.setCell (by exact hg) _⟩
    case measure=>simp [intOf]; omega
   ·have hx':(x == 0)=false:=by simpa using hx
    have HG:Hid (graG d xs ys I H O k=backG d.X2 (difL d xs ys I H O) O H k):=by show (if (hidL d xs I H).getD k 0=0 then 0 else backG d.X2 (difL d xs ys I H O) O H k)=_; rw [HX.out]; exact if_neg hx
    go_wp2
    go_roundw
    case rel=>exact ⟨k+1,by omega,by go_num,midTo_skip hrow HG.out,hbel⟩
    case measure=>simp [intOf]; omega
  ·obtain rfl:k=H:=by omega
   have hgl:Lst wr (some ⟨g,0,none⟩) k k (graL d xs ys I k O):=midTo_end hrow
   have T5:=T3.trans (hbel.mono T3.size)
   have hh5:=hh3.below hbel nr
   have hd5:=hd3.below hbel nr
   clear hrow hbel hh3 hd3 hw4 T3
   obtain ⟨x0,x1⟩:=KE.out _ T5
   have hc5:=vOuter_good (some ⟨g,0,none⟩) v k k I cv _ xs wr hgl (HV.out _ (KW.out _ T5)) j1 j2 i1 i2
   go_wp2_with fail
   refine hc5.mono ?_
   rintro e w6 ⟨gw1,rfl,hgw1,hl6,hw6⟩
   have T6:=T5.trans (hw6.mono T5.size)
   have hal6:=Zac w6 (.cells #[.int .i64 k,.int .i64 I,.slice (some ⟨gw1,0,none⟩) (k * I) (k * I)] 100)
   have T7:=T6.trans (hal6.mono T6.size)
   have hb67:=hw6.trans (hal6.mono hw6.size)
   have hc7:=vOuter_good (some ⟨gd,0,none⟩) ah O O k k _ _ _ (hd5.below hb67 nr) (hh5.below hb67 nr) o1 o2 j1 j2
   clear hc5 x0 x1
   go_wp2_with fail
   refine hc7.mono ?_
   rintro e w8 ⟨gw2,rfl,hgw2,hl8,hw8⟩
   have hal8:=Zac w8 (.cells #[.int .i64 O,.int .i64 k,.slice (some ⟨gw2,0,none⟩) (O * k) (O * k)] 100)
   have T8:=T7.trans (hw8.mono T7.size)
   have T9:=T8.trans (hal8.mono T8.size)
   have hb79:=hw8.trans (hal8.mono hw8.size)
   obtain ⟨m0,m1,m2⟩:=box3 _ _ _ _ hb79 (by simp)
   have hg9:=(hgl.below hb67 nr).below hb79 nr
   have hd9:=(hd5.below hb67 nr).below hb79 nr
   have hl69:=(hl6.below hal6 nr).below hb79 nr
   have hl89:=hl8.below hal8 nr
   have hr9:=KR.out _ T9
   obtain ⟨q0,q1,q2,q3,q4,q5,q6,q7⟩:=Zag hr9
   have g0:=hr9.frozen 0
   have g1:=hr9.frozen 1
   have g2:=hr9.frozen 2
   have g3:=hr9.frozen 3
   have g4:=hr9.frozen 4
   have g5:=hr9.frozen 5
   have g6:=hr9.frozen 6
   have g7:=hr9.frozen 7
   have hw1s:W3.heap.size<=gw1:=Nat.le_trans T5.size hgw1
   have hw2s:W3.heap.size<=gw2:=Nat.le_trans T7.size hgw2
   have hgs:W3.heap.size<=g:=Nat.le_trans hg3' hg
   clear hc7 hb67 hb79 hgl hd5 hh5 hl6 hl8 T5 T6 T7 T8 hal6 hal8 hw6 hw8
   go_wp2
   have hq:=Zbm hr9 (.int .i64 k) (.int .i64 I) (.slice (some ⟨gw1,0,none⟩) (k * I) (k * I)) (.int .i64 O) (.int .i64 k) (.slice (some ⟨gw2,0,none⟩) (O * k) (O * k)) (.slice (some ⟨g,0,none⟩) k k) (.slice (some ⟨gd,0,none⟩) O O)
   have hgr:=grown8 (w8.alloc (.cells #[.int .i64 O,.int .i64 k,.slice (some ⟨gw2,0,none⟩) (O * k) (O * k)] 100)) (w.heap.size+1+1) (.int .i64 k) (.int .i64 I) (.slice (some ⟨gw1,0,none⟩) (k * I) (k * I)) (.int .i64 O) (.int .i64 k) (.slice (some ⟨gw2,0,none⟩) (O * k) (O * k)) (.slice (some ⟨g,0,none⟩) k k) (.slice (some ⟨gd,0,none⟩) O O)
   refine (fun (key:∀ wz:World,wz.rowIs (w.heap.size+1+1) 102 8 (fn8 (.int .i64 k) (.int .i64 I) (.slice (some ⟨gw1,0,none⟩) (k * I) (k * I)) (.int .i64 O) (.int .i64 k) (.slice (some ⟨gw2,0,none⟩) (O * k) (O * k)) (.slice (some ⟨g,0,none⟩) k k) (.slice (some ⟨gd,0,none⟩) O O))->(w8.alloc (.cells #[.int .i64 O,.int .i64 k,.slice (some ⟨gw2,0,none⟩) (O * k) (O * k)] 100)).grownBy wz (some (w.heap.size+1+1))->bodyPost Tryz.prog Tryz.f187 _ Exit.ret _ wz)=>key _ hq hgr) ?_
   clear hq hgr hr9 q0 q1 q2 q3 q4 q5 q6 q7 g0 g1 g2 g3 g4 g5 g6 g7 m0 m1 m2
   intro wz hq hgr
   obtain ⟨q0,q1,q2,q3,q4,q5,q6,q7⟩:=Zag hq
   have hbw:=KW.out _ T9
   refine bodyPost_ret (v:=.tuple #[(rpup I k O (some ⟨gw1,0,none⟩) (k * I) (some ⟨gw2,0,none⟩) (O * k) (some ⟨g,0,none⟩) k (some ⟨gd,0,none⟩) O).val,.int .i64 0]) (by simp [results,Tryz.results187,go_sem,rpup,Pup.val,Pup.cells,q0,q1,q2,q3,q4,q5,q6,q7]) rfl ⟨gw1,gw2,g,gd,rfl,⟨by omega,by omega,by omega,by omega⟩,⟨?_,?_,?_,?_⟩,hbw.grown hgr hbw.size (fun k hk=>by simp at hk; omega)⟩
   ·exact hl69.grown hgr (by omega)
   ·exact hl89.grown hgr (by omega)
   ·exact hg9.grown hgr (by omega)
   ·exact hd9.grown hgr (by omega)
theorem via7 {P:Prop} {F Q:Nat->Nat->Nat->Nat->Nat->World->Prop} (h1:(∀ g1 g2 g3 g4 GB q,F g1 g2 g3 g4 GB q->Q g1 g2 g3 g4 GB q)->P) (h2:∀ g1 g2 g3 g4 GB q,F g1 g2 g3 g4 GB q->Q g1 g2 g3 g4 GB q):P:=h1 h2
structure GrAt (W:World) (I H O:Nat) (D:PD) (g1 g2 g3 g4 GB:Nat) (q:World):Prop where
 row:q.rowIs GB 102 8 (fn8 (.int .i64 H) (.int .i64 I) (.slice (some ⟨g1,0,none⟩) (H * I) (H * I)) (.int .i64 O) (.int .i64 H) (.slice (some ⟨g2,0,none⟩) (O * H) (O * H)) (.slice (some ⟨g3,0,none⟩) H H) (.slice (some ⟨g4,0,none⟩) O O))
 pup:InPup q (rpup I H O (some ⟨g1,0,none⟩) (H * I) (some ⟨g2,0,none⟩) (O * H) (some ⟨g3,0,none⟩) H (some ⟨g4,0,none⟩) O) D
 bel:Below W.heap.size W q
theorem below_grown8 {W w:World} (h:Below W.heap.size W w) {b:Nat} (hb:W.heap.size<=b) (v0 v1 v2 v3 v4 v5 v6 v7:Value) :
  Below W.heap.size W ((((((((w.setCell ⟨b,0,none⟩ v0).setCell ⟨b,1,none⟩ v1).setCell ⟨b,2,none⟩ v2).setCell ⟨b,3,none⟩ v3).setCell ⟨b,4,none⟩ v4).setCell ⟨b,5,none⟩ v5).setCell ⟨b,6,none⟩ v6).setCell ⟨b,7,none⟩ v7) :=
 h.grown (grown8 w b v0 v1 v2 v3 v4 v5 v6 v7) h.size (fun k hk=>by simp at hk; omega)
theorem sum_step {f:Nat->Nat->Int} {k N:Nat} {ys:List Int} (h:∀ i,f k i=ys.getD i 0) {w:World} {g t:Nat} (hr:w.rowIs g t N (rowTo (sumG ((List.range N).map (accTo f k)) ys) N)):w.rowIs g t N (rowTo (accTo f (k+1)) N):=by
 refine hr.congr (fun i hi=>?_)
 unfold rowTo
 rw [if_pos hi,if_pos hi]
 unfold sumG
 rw [ZaS _ hi,← h i]
 rfl
theorem tmean_calls (I H O B:Nat) (seed steps crate decay how keep clip:Int) (hc:cfgB ⟨I,H,O,seed,B,steps,crate,decay,how,keep,clip⟩=true) (N:Nat) (hN:N=H * I+H+O * H+O) (a:Option Addr) (n cap:Nat) (X:Nat->Exm) (DI DO:Nat->List Int) (a1:Option Addr) (k1:Nat) (ws:List Int) (ab:Option Addr) (kb:Nat) (BL:List Int) (f:Nat->Nat->Int) (w:World)
  (hx:Exs w a n cap X DI DO) (_:n<=16) (hex:allEx ⟨I,H,O,seed,B,steps,crate,decay,how,keep,clip⟩ n X DI DO=true) (l1:Lst w a1 N k1 ws) (hr:rightB ws=true) (lb:Lst w ab B kb BL) (hB:∀ k,k < B->∃ j:Nat,j < n/\BL.getD k 0=(j:Int)) (hf:∀ k i,f k i=(gradOf I H O ws DI DO (BL.getD k 0).toNat).getD i 0) :
  Calls Tryz.prog 134 #[Cfg.val ⟨I,H,O,seed,B,steps,crate,decay,how,keep,clip⟩,.slice a n cap,.slice a1 N k1,.slice ab B kb] w fun e w'=>∃ g,e=.returned (.slice (some ⟨g,0,none⟩) N N)/\w.heap.size<=g/\Lst w' (some ⟨g,0,none⟩) N N ((List.range N).map (meanG f B))/\Below w.heap.size w w':=by
 obtain ⟨⟨i1,i2⟩,⟨h1,h2⟩,⟨p1,p2⟩,⟨b1,b2⟩,_⟩:=Zal hc
 dsimp only at i1 i2 h1 h2 p1 p2 b1 b2
 have hN4:4<=N/\N<=40:=by
  have:=Zae (show H<=4 by omega) (show I<=4 by omega)
  have:=Zae (show O<=4 by omega) (show H<=4 by omega)
  have:1<=H * I:=Nat.mul_pos (by omega) (by omega)
  have:1<=O * H:=Nat.mul_pos (by omega) (by omega)
  omega
 have hal:=Zac w (.cells (Cfg.cells ⟨I,H,O,seed,B,steps,crate,decay,how,keep,clip⟩) 50)
 have l1':=l1.below hal nr
 have hcr:=cutD_right (l1.len.trans hN) hr
 have HCR:Hid (RightD (cutD I H O ws)):=hcr
 have HSh:Hid (Calls Tryz.prog 59 #[.int .i64 I,.int .i64 H,.int .i64 O,.slice a1 N k1] (w.alloc (.cells (Cfg.cells ⟨I,H,O,seed,B,steps,crate,decay,how,keep,clip⟩) 50)) fun e w'=>∃ a1 a2 b1 b2,e=.returned (.tuple #[(rpup I H O a1 (H * I) a2 (O * H) b1 H b2 O).val,.int .i64 0])/\InPup w' (rpup I H O a1 (H * I) a2 (O * H) b1 H b2 O) (cutD I H O ws)/\Below (w.alloc (.cells (Cfg.cells ⟨I,H,O,seed,B,steps,crate,decay,how,keep,clip⟩) 50)).heap.size (w.alloc (.cells (Cfg.cells ⟨I,H,O,seed,B,steps,crate,decay,how,keep,clip⟩) 50)) w'):=shape_good I H O a1 N k1 ws _ l1' (by omega) (by omega) (by omega) (by omega) (by omega) (by omega) hN hr
 have KB:Hid (∀ q,Below (w.alloc (.cells (Cfg.cells ⟨I,H,O,seed,B,steps,crate,decay,how,keep,clip⟩) 50)).heap.size (w.alloc (.cells (Cfg.cells ⟨I,H,O,seed,B,steps,crate,decay,how,keep,clip⟩) 50)) q->BoxC q w.heap.size ⟨I,H,O,seed,B,steps,crate,decay,how,keep,clip⟩):=fun q hq=>boxC hq (by simp)
 have hmk:=run_make_row' (P:=Tryz.prog) 66 3 (.int .i64 0) 8 Tryz.underlying66 info3 rfl .i64 .i64 N (by omega) (by omega)
 have HN:Hid (N=H * I+H+O * H+O):=hN
 have HEX:Hid (allEx ⟨I,H,O,seed,B,steps,crate,decay,how,keep,clip⟩ n X DI DO=true):=hex
 have HF:Hid (∀ k i,f k i=(gradOf I H O ws DI DO (BL.getD k 0).toNat).getD i 0):=hf
 have HBI:Hid (∀ k,k < B->∃ j:Nat,j < n/\BL.getD k 0=(j:Int)):=hB
 clear hc hN hex hf hB hr hcr l1 l1'
 simp only [Cfg.val,Cfg.cells] at *
 go_enter Tryz.func134,Tryz.ntmps134
 go_wp2_with fail
 refine HSh.out.mono ?_
 rintro e w2 ⟨pa1,pa2,pb1,pb2,rfl,hpup,hw2⟩
 have T2:=hal.trans (hw2.mono hal.size)
 have mrow:=ZaF w2 (.int .i64 H) (.int .i64 I) (.slice pa1 (H * I) (H * I)) (.int .i64 O) (.int .i64 H) (.slice pa2 (O * H) (O * H)) (.slice pb1 H H) (.slice pb2 O O) 102
 have hal3:=Zac w2 (.cells #[.int .i64 H,.int .i64 I,.slice pa1 (H * I) (H * I),.int .i64 O,.int .i64 H,.slice pa2 (O * H) (O * H),.slice pb1 H H,.slice pb2 O O] 102)
 have T3:=T2.trans (hal3.mono T2.size)
 have hp3:=hpup.below hal3 nr
 have KB3:Hid (∀ q,Below (w2.alloc (.cells #[.int .i64 H,.int .i64 I,.slice pa1 (H * I) (H * I),.int .i64 O,.int .i64 H,.slice pa2 (O * H) (O * H),.slice pb1 H H,.slice pb2 O O] 102)).heap.size (w2.alloc (.cells #[.int .i64 H,.int .i64 I,.slice pa1 (H * I) (H * I),.int .i64 O,.int .i64 H,.slice pa2 (O * H) (O * H),.slice pb1 H H,.slice pb2 O O] 102)) q->BoxC q w.heap.size ⟨I,H,O,seed,B,steps,crate,decay,how,keep,clip⟩):=fun q hq=>KB.out q ((hw2.trans (hal3.mono hw2.size)).trans (hq.mono (hw2.trans (hal3.mono hw2.size)).size))
 clear HSh hpup hw2 KB hal
 simp only [rpup,Pup.val,Pup.cells] at *
 go_wp2_with fail
 generalize hw3:w2.alloc (.cells #[.int .i64 H,.int .i64 I,.slice pa1 (H * I) (H * I),.int .i64 O,.int .i64 H,.slice pa2 (O * H) (O * H),.slice pb1 H H,.slice pb2 O O] 102)=w3 at *
 have hs3:w3.heap.size=w2.heap.size+1:=by rw [← hw3]; simp
 clear hw3
 have hx3:Exs w3 a n cap X DI DO:=hx.below T3 nr
 have lb3:=lb.below T3 nr
 clear hx lb T2 hal3
 have hz3:=T3.size
 go_loopw [11,36] (fun s v wr=>∃ k g:Nat,k<=B/\v=.int .i64 k/\s=.slice (some ⟨g,0,none⟩) N N/\w3.heap.size<=g/\wr.rowIs g 3 N (rowTo (accTo f k) N)/\Below w3.heap.size w3 wr) (fun _ v _=>B - (intOf v).toNat)
 case atStart=>exact ⟨0,w2.heap.size+1,Nat.zero_le _,rfl,rfl,by omega,by have h:=World.rowIs_made w3 (.int .i64 0) N 3; rw [hs3] at h; exact h.congr (fun i hi=>by unfold rowTo; rw [if_pos hi]; rfl),Zac _ _⟩
 case round =>
  clear hmk
  obtain ⟨k,g,hk,rfl,rfl,hg,grow,hbel⟩:=hrel
  by_cases hlt:k < B
  ·obtain ⟨j,hj,hBj⟩:=HBI.out k hlt
   obtain ⟨bb,ob,rfl,hbb,hcb⟩:=lb3.at (by omega)
   have e7:w3.cell? ⟨bb,ob+k,none⟩=some (.int .i64 j):=by have:=hcb k hlt; rw [hBj] at this; exact this
   obtain ⟨xb,xo,rfl,e8,e9,hin⟩:=hx3.at hj
   have hexj:=exB_is (ZcG HEX.out hj)
   have hfk:∀ i,f k i=(gradOf I H O ws DI DO j).getD i 0:=fun i=>by rw [HF.out,hBj]; rfl
   have HFK:Hid (∀ i,f k i=(gradOf I H O ws DI DO j).getD i 0):=hfk
   obtain ⟨xx,hxx⟩:∃ x,X j=x:=⟨_,rfl⟩
   rw [hxx] at e8 e9 hin hexj
   obtain ⟨xa,xn,xk,ya,yn,yk⟩:=xx
   dsimp only at e8 e9 hin hexj
   obtain rfl:I=xn:=by have:=hexj.1; omega
   obtain rfl:O=yn:=by have:=hexj.2.1; omega
   have KT:Hid (∀ q,Below w3.heap.size w3 q->q.cell? ⟨w2.heap.size,0,none⟩=some (.int .i64 H)/\q.cell? ⟨w2.heap.size,1,none⟩=some (.int .i64 I)/\q.cell? ⟨w2.heap.size,2,none⟩=some (.slice pa1 (H * I) (H * I))/\q.cell? ⟨w2.heap.size,3,none⟩=some (.int .i64 O)/\q.cell? ⟨w2.heap.size,4,none⟩=some (.int .i64 H)/\q.cell? ⟨w2.heap.size,5,none⟩=some (.slice pa2 (O * H) (O * H))/\q.cell? ⟨w2.heap.size,6,none⟩=some (.slice pb1 H H)/\q.cell? ⟨w2.heap.size,7,none⟩=some (.slice pb2 O O)/\q.cell? ⟨xb,xo+j * 2,none⟩=some (.slice xa I xk)/\q.cell? ⟨xb,xo+j * 2+1,none⟩=some (.slice ya O yk)):=fun q hq=>by
    obtain ⟨m0,m1,m2,m3,m4,m5,m6,m7⟩:=Zag (mrow.of_block (hq.block _ mrow.lt))
    exact ⟨m0,m1,m2,m3,m4,m5,m6,m7,(hq.cell (p:=⟨xb,xo+j * 2,none⟩) (Zas e8)).trans e8,(hq.cell (p:=⟨xb,xo+j * 2+1,none⟩) (Zas e9)).trans e9⟩
   have HG:Hid (∀ q,Below w3.heap.size w3 q->Calls Tryz.prog 187 #[.agg #[.int .i64 H,.int .i64 I,.slice pa1 (H * I) (H * I),.int .i64 O,.int .i64 H,.slice pa2 (O * H) (O * H),.slice pb1 H H,.slice pb2 O O],.agg #[.slice xa I xk,.slice ya O yk]] q fun e w'=>∃ g1 g2 g3 g4:Nat,e=.returned (.tuple #[.agg #[.int .i64 H,.int .i64 I,.slice (some ⟨g1,0,none⟩) (H * I) (H * I),.int .i64 O,.int .i64 H,.slice (some ⟨g2,0,none⟩) (O * H) (O * H),.slice (some ⟨g3,0,none⟩) H H,.slice (some ⟨g4,0,none⟩) O O],.int .i64 0])/\(q.heap.size<=g1/\q.heap.size<=g2/\q.heap.size<=g3/\q.heap.size<=g4)/\InPup w' (rpup I H O (some ⟨g1,0,none⟩) (H * I) (some ⟨g2,0,none⟩) (O * H) (some ⟨g3,0,none⟩) H (some ⟨g4,0,none⟩) O) (graD (cutD I H O ws) (DI j) (DO j) I H O)/\Below q.heap.size q w'):=fun q hq =>
    pgrad_at I H O pa1 (H * I) pa2 (O * H) pb1 H pb2 O (cutD I H O ws) xa xk (DI j) ya yk (DO j) q (hp3.below hq nr) (hin.i.below hq nr) (hin.o.below hq nr) HCR.out (by omega) (by omega) (by omega) (by omega) (by omega) (by omega)
   have e7r:=(hbel.cell (p:=⟨bb,ob+k,none⟩) (Zas e7)).trans e7
   clear hexj hxx hcb e7 e8 e9 hin hfk
   have Td:Below w3.heap.size w3 wr.drew:=Zab hbel 1
   have S0:=KT.out _ Td
   have Ta:Below w3.heap.size w3 (wr.alloc (.cells #[.int .i64 0,.int .i64 0,.slice none 0 0,.int .i64 0,.int .i64 0,.slice none 0 0,.slice none 0 0,.slice none 0 0] 102)).drew:=Zab (hbel.alloc hbel.size _) 1
   have Sa:=KT.out _ Ta
   have rowa:(wr.alloc (.cells #[.int .i64 0,.int .i64 0,.slice none 0 0,.int .i64 0,.int .i64 0,.slice none 0 0,.slice none 0 0,.slice none 0 0] 102)).drew.rowIs wr.heap.size 102 8 (fn8 (.int .i64 0) (.int .i64 0) (.slice none 0 0) (.int .i64 0) (.int .i64 0) (.slice none 0 0) (.slice none 0 0) (.slice none 0 0)):=ZaF wr (.int .i64 0) (.int .i64 0) (.slice none 0 0) (.int .i64 0) (.int .i64 0) (.slice none 0 0) (.slice none 0 0) (.slice none 0 0) 102
   have dr:Below wr.heap.size wr wr.drew:=Zab br 1
   have da:Below wr.heap.size wr (wr.alloc (.cells #[.int .i64 0,.int .i64 0,.slice none 0 0,.int .i64 0,.int .i64 0,.slice none 0 0,.slice none 0 0,.slice none 0 0] 102)).drew:=Zab (Zac _ _) 1
   have jn:(j:Int) < (n:Int):=by omega
   have j0:(0:Int)<=(j:Int):=by omega
   have hszw:=hbel.size
   go_wp2_with fail
   apply via7 (F:=GrAt wr I H O (graD (cutD I H O ws) (DI j) (DO j) I H O))
   ·intro key
    go_region_held3 (fun q=>q.cell? ⟨w2.heap.size,0,none⟩=some (.int .i64 H)/\q.cell? ⟨w2.heap.size,1,none⟩=some (.int .i64 I)/\q.cell? ⟨w2.heap.size,2,none⟩=some (.slice pa1 (H * I) (H * I))/\q.cell? ⟨w2.heap.size,3,none⟩=some (.int .i64 O)/\q.cell? ⟨w2.heap.size,4,none⟩=some (.int .i64 H)/\q.cell? ⟨w2.heap.size,5,none⟩=some (.slice pa2 (O * H) (O * H))/\q.cell? ⟨w2.heap.size,6,none⟩=some (.slice pb1 H H)/\q.cell? ⟨w2.heap.size,7,none⟩=some (.slice pb2 O O)/\q.cell? ⟨xb,xo+j * 2,none⟩=some (.slice xa I xk)/\q.cell? ⟨xb,xo+j * 2+1,none⟩=some (.slice ya O yk)) (first | with_reducible exact S1a | with_reducible exact S1f | with_reducible exact S3 | with_reducible exact S1 | with_reducible exact Sa | with_reducible exact S0)
     (first | (go_at_call 187; (first | refine (HG.out _ Td).mono ?_ | refine (HG.out _ Ta).mono ?_); rintro e u1 ⟨g1,g2,g3,g4,rfl,hgs,hgi,hu1⟩; have V1:Below w3.heap.size w3 u1:=(by first | exact Td.trans (hu1.mono Td.size) | exact Ta.trans (hu1.mono Ta.size)); have U1:Below wr.heap.size wr u1:=(by first | exact dr.trans (hu1.mono dr.size) | exact da.trans (hu1.mono da.size)); have S1:=KT.out _ V1; have V1a:=V1.alloc V1.size (.cells #[.int .i64 0,.int .i64 0,.slice none 0 0,.int .i64 0,.int .i64 0,.slice none 0 0,.slice none 0 0,.slice none 0 0] 102); have S1a:=KT.out _ V1a; have V1f:=V1.alloc V1.size (.cells #[.int .i64 H,.int .i64 I,.slice (some ⟨g1,0,none⟩) (H * I) (H * I),.int .i64 O,.int .i64 H,.slice (some ⟨g2,0,none⟩) (O * H) (O * H),.slice (some ⟨g3,0,none⟩) H H,.slice (some ⟨g4,0,none⟩) O O] 102); have S1f:=KT.out _ V1f; have V3:=below_grown8 (b:=wr.heap.size) V1 hszw (.int .i64 H) (.int .i64 I) (.slice (some ⟨g1,0,none⟩) (H * I) (H * I)) (.int .i64 O) (.int .i64 H) (.slice (some ⟨g2,0,none⟩) (O * H) (O * H)) (.slice (some ⟨g3,0,none⟩) H H) (.slice (some ⟨g4,0,none⟩) O O); have S3:=KT.out _ V3; (first | (have zr:=rowa.of_block (hu1.block _ rowa.lt); obtain ⟨z0,z1,z2,z3,z4,z5,z6,z7⟩:=Zag zr; have y0:=zr.frozen 0; have y1:=zr.frozen 1; have y2:=zr.frozen 2; have y3:=zr.frozen 3; have y4:=zr.frozen 4; have y5:=zr.frozen 5; have y6:=zr.frozen 6; have y7:=zr.frozen 7) | skip)))
    ·have f0:GrAt wr I H O (graD (cutD I H O ws) (DI j) (DO j) I H O) g1 g2 g3 g4 u1.heap.size (u1.alloc (.cells #[.int .i64 H,.int .i64 I,.slice (some ⟨g1,0,none⟩) (H * I) (H * I),.int .i64 O,.int .i64 H,.slice (some ⟨g2,0,none⟩) (O * H) (O * H),.slice (some ⟨g3,0,none⟩) H H,.slice (some ⟨g4,0,none⟩) O O] 102)):=⟨ZaF u1 (.int .i64 H) (.int .i64 I) (.slice (some ⟨g1,0,none⟩) (H * I) (H * I)) (.int .i64 O) (.int .i64 H) (.slice (some ⟨g2,0,none⟩) (O * H) (O * H)) (.slice (some ⟨g3,0,none⟩) H H) (.slice (some ⟨g4,0,none⟩) O O) 102,hgi.below (Zac _ _) nr,U1.trans ((Zac _ _).mono U1.size)⟩
     generalize u1.alloc (.cells #[.int .i64 H,.int .i64 I,.slice (some ⟨g1,0,none⟩) (H * I) (H * I),.int .i64 O,.int .i64 H,.slice (some ⟨g2,0,none⟩) (O * H) (O * H),.slice (some ⟨g3,0,none⟩) H H,.slice (some ⟨g4,0,none⟩) O O] 102)=q at f0 ⊢
     generalize u1.heap.size=GB at f0 ⊢
     exact key g1 g2 g3 g4 GB q f0
    ·obtain ⟨s1,s2,s3,s4⟩:=hgs
     simp at s1 s2 s3 s4
     have hgr:=grown8 u1 wr.heap.size (.int .i64 H) (.int .i64 I) (.slice (some ⟨g1,0,none⟩) (H * I) (H * I)) (.int .i64 O) (.int .i64 H) (.slice (some ⟨g2,0,none⟩) (O * H) (O * H)) (.slice (some ⟨g3,0,none⟩) H H) (.slice (some ⟨g4,0,none⟩) O O)
     exact key g1 g2 g3 g4 _ _ ⟨Zbm zr (.int .i64 H) (.int .i64 I) (.slice (some ⟨g1,0,none⟩) (H * I) (H * I)) (.int .i64 O) (.int .i64 H) (.slice (some ⟨g2,0,none⟩) (O * H) (O * H)) (.slice (some ⟨g3,0,none⟩) H H) (.slice (some ⟨g4,0,none⟩) O O),⟨hgi.x1.grown hgr (by omega),hgi.x2.grown hgr (by omega),hgi.b1.grown hgr (by omega),hgi.b2.grown hgr (by omega)⟩,below_grown8 U1 nr (.int .i64 H) (.int .i64 I) (.slice (some ⟨g1,0,none⟩) (H * I) (H * I)) (.int .i64 O) (.int .i64 H) (.slice (some ⟨g2,0,none⟩) (O * H) (O * H)) (.slice (some ⟨g3,0,none⟩) H H) (.slice (some ⟨g4,0,none⟩) O O)⟩
   ·rintro g1 g2 g3 g4 GB q ⟨qrow,qpup,qbel⟩
    clear S0 Sa Td Ta rowa dr da KT HG
    obtain ⟨m0,m1,m2,m3,m4,m5,m6,m7⟩:=Zag qrow
    have HFl:Hid (Calls Tryz.prog 188 #[.agg #[.int .i64 H,.int .i64 I,.slice (some ⟨g1,0,none⟩) (H * I) (H * I),.int .i64 O,.int .i64 H,.slice (some ⟨g2,0,none⟩) (O * H) (O * H),.slice (some ⟨g3,0,none⟩) H H,.slice (some ⟨g4,0,none⟩) O O]] q fun e w'=>∃ a c,e=.returned (.tuple #[.slice a N c,.int .i64 0])/\Lst w' a N c (gradOf I H O ws DI DO j)/\Below q.heap.size q w'):=by
     refine (pflat_calls (rpup I H O (some ⟨g1,0,none⟩) (H * I) (some ⟨g2,0,none⟩) (O * H) (some ⟨g3,0,none⟩) H (some ⟨g4,0,none⟩) O) (graD (cutD I H O ws) (DI j) (DO j) I H O) q qpup).mono ?_
     rintro e w' ⟨a,n',c,he,_,hl,hb⟩
     have hz:pchk (rpup I H O (some ⟨g1,0,none⟩) (H * I) (some ⟨g2,0,none⟩) (O * H) (some ⟨g3,0,none⟩) H (some ⟨g4,0,none⟩) O) (graD (cutD I H O ws) (DI j) (DO j) I H O)=0:=pchk_right (by omega) (by omega) (by omega) (by omega) (by omega) (by omega) (graD_right _ _ _ _ _ _)
     unfold flatL at hl
     rw [if_pos hz] at hl
     rw [hz] at he
     have hn':N=n':=by
      have:=hl.len
      rw [← this,HN.out,graD_len]
     subst hn'
     exact ⟨a,c,he,hl,hb⟩
    go_wp2_with fail
    refine HFl.out.mono ?_
    rintro e u2 ⟨la,lc,rfl,ll,hu2⟩
    have hb2:Below wr.heap.size wr u2:=qbel.trans (hu2.mono qbel.size)
    have hgl:=(Zbe grow).below hb2 nr
    clear HFl m0 m1 m2 m3 m4 m5 m6 m7 qrow qpup hu2
    go_wp2_with fail
    refine (vSum_at _ _ _ _ _ _ _ _ hgl ll (by omega)).mono ?_
    rintro e u3 ⟨gs,rfl,hgs,srow,hu3⟩
    have hb3:Below w3.heap.size w3 u3:=hbel.trans ((hb2.trans (hu3.mono hb2.size)).mono hbel.size)
    have hz2:=hb2.size
    clear hgl ll
    go_wp2_with fail
    go_roundw
    case rel=>exact ⟨k+1,gs,by omega,by go_num,rfl,by omega,sum_step HFK.out srow,hb3⟩
    case measure=>simp [intOf]; omega
  ·obtain rfl:B=k:=by omega
   have HMG:Hid (∀ i,meanG f B i=divI (accTo f B i) ((B:Int) * 65536)):=fun i=>rfl
   have hbz:(B:Int) * 65536 ≠ 0:=by omega
   have KB4:Hid (∀ q,Below w3.heap.size w3 q->q.cell? ⟨w.heap.size,4,none⟩=some (.int .i64 B)):=fun q hq=>(KB3.out q hq).c4
   clear hx3 lb3 hp3 mrow KB3 HEX HF HBI HCR
   generalize hwr:wr=wo at *
   clear hwr
   go_wp2_with fail
   go_loopw [63] (fun v wr=>∃ i:Nat,i<=N/\v=.int .i64 i/\wr.rowIs g 3 N (midTo (meanG f B) (accTo f B) i)/\Below w3.heap.size w3 wr) (fun v _=>N - (intOf v).toNat)
   case atStart=>exact ⟨0,Nat.zero_le _,rfl,ZcT grow,hbel⟩
   case round =>
    clear grow hbel
    obtain ⟨i,hi,rfl,grow,hbel⟩:=hrel
    by_cases hil:i < N
    ·have c3:=midTo_cell grow hil
     have f3:=grow.frozen i
     obtain ⟨x,hx0⟩:∃ x,accTo f B i=x:=⟨_,rfl⟩
     have HM:Hid (meanG f B i=divI x ((B:Int) * 65536)):=by show meanG f B i=_; rw [HMG.out,hx0]
     rw [hx0] at c3
     clear hx0
     have c4:=KB4.out _ hbel
     go_wp2_with (go_at_call 185; refine (div_calls _ _ _ hbz).mono ?_; rintro e w' ⟨rfl,nd,rfl⟩)
     go_roundw
     case rel =>
      have st:=ZcF grow
      rw [HM.out] at st
      exact ⟨i+1,by omega,by go_num,Zap st _,Zab (hbel.setCell (show w3.heap.size<=g from hg) _) _⟩
     case measure=>simp [intOf]; omega
    ·obtain rfl:i=N:=by omega
     go_wp2_with fail
     go_ret
     exact ⟨g,rfl,by omega,midTo_end grow,T3.trans (hbel.mono T3.size)⟩
end Go.Proofs.YthmiojmlaclgaaaGreatDoor.Fx
