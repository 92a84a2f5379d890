/- What the law stands on: AudB AudC. -/
import Derived.Test.YthmiojmlaclgaaaGreatDoorJ00
import Derived.Test.YthmiojmlaclgaaaGreatDoorJ24
import Derived.Test.YthmiojmlaclgaaaGreatDoorJ25
import Derived.Deep.QuietTactic
import Derived.BigQuiet
import Derived.Deep.RegionHeld3
set_option maxRecDepth 100000
set_option maxHeartbeats 12800000
namespace Go.Proofs.YthmiojmlaclgaaaGreatDoor.Fx
open Go.RowKit
theorem sstep_calls (x y:Rcm) (xs ys:List Int) (w:World) (l1:Lst w x.a x.n x.k xs) (l2:Lst w y.a y.n y.k ys) (hn:x.n<=9223372036854775807) :
  Calls Tryz.prog 84 #[x.val,y.val] w fun e w'=>e=.returned (.bool (likeB x y xs ys))/\Below w.heap.size w w':=by
 have hal:=(Zac w (.cells x.cells 111)).trans ((Zac (w.alloc (.cells x.cells 111)) (.cells y.cells 111)).mono (Zac w (.cells x.cells 111)).size)
 have EQ:=eq_big _ _ _ _ _ _ xs ys _ (l1.below hal nr) (l2.below hal nr) hn
 obtain ⟨QB,HQ⟩:=nm (decide (xs=ys))
 rw [HQ.out] at EQ
 have HL:Hid (likeB x y xs ys=(decide (x.s=y.s) && decide (x.r=y.r) && decide (x.root=y.root) && QB)):=by show _=_; unfold likeB; rw [HQ.out]
 obtain ⟨LB,HLB⟩:=nm (likeB x y xs ys)
 rw [HLB.out] at HL ⊢
 clear l1 l2 HQ HLB
 obtain ⟨s,a,n,k,r,root,chain⟩:=x
 obtain ⟨s',a',n',k',r',root',chain'⟩:=y
 simp only [Rcm.val,Rcm.cells] at *
 by_cases h1:s=s'
 rotate_left
 ·have qh1:(s == s')=false:=by simpa using h1
  have hL:LB=false:=by rw [HL.out,decide_eq_false h1]; simp
  subst hL
  go_enter Tryz.func84,Tryz.ntmps84
  go_wp2_with fail
  go_ret
  exact ⟨rfl,hal⟩
 have qh1:(s == s')=true:=by simpa using h1
 cases QB with
 | false =>
   have hL:LB=false:=by rw [HL.out]; simp
   subst hL
   clear h1
   go_enter Tryz.func84,Tryz.ntmps84
   go_wp2_with fail
   refine EQ.mono ?_
   rintro e w1 ⟨rfl,k5,hw5⟩
   subst hw5
   go_wp2_with fail
   go_ret
   exact ⟨rfl,Zab hal _⟩
 | true =>
   by_cases h2:r=r'
   rotate_left
   ·have qh2:(r == r')=false:=by simpa using h2
    have hL:LB=false:=by rw [HL.out,decide_eq_false h2]; simp
    subst hL
    clear h1
    go_enter Tryz.func84,Tryz.ntmps84
    go_wp2_with fail
    refine EQ.mono ?_
    rintro e w1 ⟨rfl,k5,hw5⟩
    subst hw5
    go_wp2_with fail
    go_ret
    exact ⟨rfl,Zab hal _⟩
   have qh2:(r == r')=true:=by simpa using h2
   have hL:(root == root')=LB:=by rw [HL.out,decide_eq_true h1,decide_eq_true h2,beq_dec]; simp
   clear h1 h2
   go_enter Tryz.func84,Tryz.ntmps84
   go_wp2_with fail
   refine EQ.mono ?_
   rintro e w1 ⟨rfl,k5,hw5⟩
   subst hw5
   go_wp2_with fail
   go_ret
   exact ⟨rfl,Zab hal _⟩
theorem whole_good (c:Cfg) (hs:okW c.seed) (a:Option Addr) (n cap:Nat) (X:Nat->Exm) (DI DO:Nat->List Int) (la:Option Addr) (ln lc:Nat) (L:Nat->Rcm) (DL:Nat->List Int) (w:World) (hx:Exs w a n cap X DI DO) (hl:Recs w la ln lc L DL) (hL:∀ j,j < ln->(L j).n<=9223372036854775807) (h0:courseI c n X DI DO=0) (hm:(ln:Int)<=c.steps) :
  Calls Tryz.prog 51 #[c.val,.slice a n cap,.slice la ln lc] w fun e w'=>e=.returned (.tuple #[.int .i64 (firstNo (auB c n DI DO L DL) ln:Nat),.int .i64 0])/\Below w.heap.size w w':=by
 have hal:=Zac w (.cells c.cells 50)
 have CK:=Zbd c a n cap X DI DO _ (hx.below hal nr)
 have KB:Hid (∀ q,Below (w.alloc (.cells c.cells 50)).heap.size (w.alloc (.cells c.cells 50)) q->BoxC q w.heap.size c):=fun q hq=>boxC hq (by simp)
 rw [h0] at CK
 have HMK:Hid (∀ q,Below w.heap.size w q->Calls Tryz.prog 78 #[c.val,.slice a n cap,.int .i64 ln] q fun e w'=>∃ g R,e=.returned (.tuple #[.slice (some ⟨g,0,none⟩) ln ln,.int .i64 0])/\Recs w' (some ⟨g,0,none⟩) ln ln R (jrBatch c n)/\JrN ln R (mkRV c) (mkRO c n DI DO) (mkCH c n DI DO)/\Below q.heap.size q w'):=fun q hq=>by
  refine (jMake_good c a n cap X DI DO ln q hs (hx.below hq nr) h0 hm).mono ?_
  rintro e w' ⟨g,R,he,g1,g2,g3,g4,g5⟩
  exact ⟨g,R,he,recs_of g2 g3,g4,g5⟩
 have HQ:Hid (∀ (R:Nat->Rcm),JrN ln R (mkRV c) (mkRO c n DI DO) (mkCH c n DI DO)->∀ j,j < ln->auB c n DI DO L DL j=recB (L j) (R j) (DL j) (jrBatch c n j)):=fun R h j hj=>auB_is h L DL hj
 have HF:Hid (∀ k,k<=ln->(∀ j,j < k->auB c n DI DO L DL j=true)->(k < ln->auB c n DI DO L DL k=false)->firstNo (auB c n DI DO L DL) ln=k):=fun k h1 h2 h3=>ZcN _ ln k h1 h2 h3
 have h40:ln<=40:=by
  obtain ⟨_,_,_,_,⟨p1,p2⟩,_⟩:=Zal (course_ok h0).1
  omega
 have HLN:Hid (∀ j,j < ln->(L j).n<=9223372036854775807):=hL
 generalize firstNo (auB c n DI DO L DL) ln=FN at *
 generalize auB c n DI DO L DL=QF at *
 generalize jrBatch c n=DB at *
 generalize mkRV c=RV at *
 generalize mkRO c n DI DO=RO at *
 generalize mkCH c n DI DO=CH at *
 have z1:¬ c.steps < (ln:Int):=by omega
 clear hx hs h0 hL
 obtain ⟨i,h,o,seed,batch,steps,crate,decay,how,keep,clip⟩:=c
 simp only [Cfg.val,Cfg.cells] at *
 obtain ⟨c0,c1,c2,c3,c4,c5,c6,c7,c8,c9,c10⟩:=KB.out _ br
 dsimp only at c0 c1 c2 c3 c4 c5 c6 c7 c8 c9 c10
 go_enter Tryz.func51,Tryz.ntmps51
 go_wp2_with fail
 refine CK.mono ?_
 rintro e w1 ⟨rfl,hw1⟩
 clear c0 c1 c2 c3 c4 c5 c6 c7 c8 c9 c10
 obtain ⟨c0,c1,c2,c3,c4,c5,c6,c7,c8,c9,c10⟩:=KB.out _ hw1
 dsimp only at c0 c1 c2 c3 c4 c5 c6 c7 c8 c9 c10
 have T1:=hal.trans (hw1.mono hal.size)
 go_wp2_with fail
 refine (HMK.out _ T1).mono ?_
 rintro e w2 ⟨g,R,rfl,hR,hJ,hw2⟩
 have T2:=T1.trans (hw2.mono T1.size)
 have HQ2:=HQ.out R hJ
 have HQ3:Hid (∀ j,j < ln->QF j=recB (L j) (R j) (DL j) (DB j)):=HQ2
 have HL2:=hl.below T2 nr
 clear hJ HQ HQ2 HMK CK KB hw1 hw2 c0 c1 c2 c3 c4 c5 c6 c7 c8 c9 c10 hl
 go_wp2_with fail
 go_loopw [34] (fun v wr=>∃ k:Nat,k<=ln/\v=.int .i64 k/\Hid (∀ j,j < k->QF j=true)/\Below w2.heap.size w2 wr) (fun v _=>ln - (intOf v).toNat)
 case atStart=>exact ⟨0,Nat.zero_le _,rfl,fun j hj=>by omega,br⟩
 case round =>
  obtain ⟨k,hk,rfl,hg,hbel⟩:=hrel
  by_cases hlt:k < ln
  ·obtain ⟨xb,xo,rfl,hc⟩:=(HL2.below hbel nr).at (by omega)
   have hR1:=hR.below hbel nr
   obtain ⟨yb,yo,hyb,hd⟩:=hR1.at (by omega)
   simp only [Option.some.injEq,Addr.mk.injEq,and_true] at hyb
   obtain ⟨rfl,rfl⟩:=hyb
   obtain ⟨e0,e1,e2,e3,e4,lx⟩:=hc k hlt
   obtain ⟨f0,f1,f2,f3,f4,ly⟩:=hd k hlt
   have hlen:=HLN.out k hlt
   have hqk:=HQ3.out k hlt
   have hgood:QF k=true->∀ j,j < k+1->QF j=true:=fun q j hj=>by
    by_cases e:j=k
    ·subst e; exact q
    ·exact hg.out j (by omega)
   have hbad:QF k=false->FN=k:=fun q=>HF.out k hk hg.out (fun _=>q)
   have SM0:∀ q,Below wr.heap.size wr q->Calls Tryz.prog 84 #[(L k).val,(R k).val] q fun e w'=>e=.returned (.bool (likeB (L k) (R k) (DL k) (DB k)))/\Below q.heap.size q w':=fun q hq=>sstep_calls _ _ _ _ q (lx.below hq nr) (ly.below hq nr) hlen
   have hrb:recB (L k) (R k) (DL k) (DB k)=(likeB (L k) (R k) (DL k) (DB k) && decide ((L k).chain=(R k).chain)):=rfl
   rw [hrb] at hqk
   rw [hqk] at hgood hbad
   rw [Nat.zero_add] at f0 f1 f2 f3 f4
   obtain ⟨x,hxk⟩:∃ x,L k=x:=⟨_,rfl⟩
   obtain ⟨y,hyk⟩:∃ y,R k=y:=⟨_,rfl⟩
   rw [hxk] at e0 e1 e2 e3 e4 hgood hbad SM0
   rw [hyk] at f0 f1 f2 f3 f4 hgood hbad SM0
   generalize likeB x y (DL k) (DB k)=LB at *
   obtain ⟨ls,lla,lln,llk,lr,lroot,lchain⟩:=x
   obtain ⟨rs,ra,rn,rk,rr,rroot,rchain⟩:=y
   simp only [Rcm.val,Rcm.cells] at *
   have ha:=Zac wr (.cells #[.int .i64 ls,.slice lla lln llk,.int .i64 lr,.int .u64 lroot,.int .u64 lchain] 111)
   have row:=Zao wr (.int .i64 ls) (.slice lla lln llk) (.int .i64 lr) (.int .u64 lroot) (.int .u64 lchain) 111
   have SM:=SM0 _ (Below.drew ha)
   have KS:Hid (∀ q,Below (wr.alloc (.cells #[.int .i64 ls,.slice lla lln llk,.int .i64 lr,.int .u64 lroot,.int .u64 lchain] 111)).heap.size (wr.alloc (.cells #[.int .i64 ls,.slice lla lln llk,.int .i64 lr,.int .u64 lroot,.int .u64 lchain] 111)) q->q.cell? ⟨wr.heap.size,0,none⟩=some (.int .i64 ls)/\q.cell? ⟨wr.heap.size,1,none⟩=some (.slice lla lln llk)/\q.cell? ⟨wr.heap.size,2,none⟩=some (.int .i64 lr)/\q.cell? ⟨wr.heap.size,3,none⟩=some (.int .u64 lroot)/\q.cell? ⟨wr.heap.size,4,none⟩=some (.int .u64 lchain)/\q.cell? ⟨g,k * 5,none⟩=some (.int .i64 rs)/\q.cell? ⟨g,k * 5+1,none⟩=some (.slice ra rn rk)/\q.cell? ⟨g,k * 5+2,none⟩=some (.int .i64 rr)/\q.cell? ⟨g,k * 5+3,none⟩=some (.int .u64 rroot)/\q.cell? ⟨g,k * 5+4,none⟩=some (.int .u64 rchain)):=fun q hq=>by
    obtain ⟨b0,b1,b2,b3,b4⟩:=Zam (row.of_block (hq.block _ row.lt))
    have hq':=ha.trans (hq.mono ha.size)
    exact ⟨b0,b1,b2,b3,b4,(hq'.cell (p:=⟨g,k * 5,none⟩) (Zas f0)).trans f0,(hq'.cell (p:=⟨g,k * 5+1,none⟩) (Zas f1)).trans f1,(hq'.cell (p:=⟨g,k * 5+2,none⟩) (Zas f2)).trans f2,(hq'.cell (p:=⟨g,k * 5+3,none⟩) (Zas f3)).trans f3,(hq'.cell (p:=⟨g,k * 5+4,none⟩) (Zas f4)).trans f4⟩
   have S0:=KS.out _ (Below.drew br)
   have k0:(0:Int)<=(k:Int):=by omega
   have kn:(k:Int) < (ln:Int):=by omega
   have hVa:=hbel.trans (ha.mono hbel.size)
   have HB:Hid ((LB && decide (lchain=rchain))=false->FN=k):=hbad
   have HG:Hid ((LB && decide (lchain=rchain))=true->∀ j,j < k+1->QF j=true):=hgood
   clear hR1 hc hd lx ly hlen hqk hgood hbad SM0 hrb hxk hyk f0 f1 f2 f3 f4 hR HL2 HLN HQ3 HF hg row
   cases LB with
   | false =>
     have hF:=(HB.out (by rfl)).symm
     subst hF
     go_wp2_with fail
     refine wp_region_held_drew (S:=fun q=>q.cell? ⟨wr.heap.size,0,none⟩=some (.int .i64 ls)/\q.cell? ⟨wr.heap.size,1,none⟩=some (.slice lla lln llk)/\q.cell? ⟨wr.heap.size,2,none⟩=some (.int .i64 lr)/\q.cell? ⟨wr.heap.size,3,none⟩=some (.int .u64 lroot)/\q.cell? ⟨wr.heap.size,4,none⟩=some (.int .u64 lchain)/\q.cell? ⟨g,k * 5,none⟩=some (.int .i64 rs)/\q.cell? ⟨g,k * 5+1,none⟩=some (.slice ra rn rk)/\q.cell? ⟨g,k * 5+2,none⟩=some (.int .i64 rr)/\q.cell? ⟨g,k * 5+3,none⟩=some (.int .u64 rroot)/\q.cell? ⟨g,k * 5+4,none⟩=some (.int .u64 rchain)) (by kernel_rfl) (by with_reducible exact S0) (fun hHeld=>?_)
     refine tk 0 (h:=?_)
     refine tk 1 (h:=?_)
     refine tk 2 (h:=?_)
     refine tk 3 (h:=?_)
     refine tk 4 (h:=?_)
     refine rd 5 (h:=fun K hK=>?_)
     clear hHeld
     go_simp
     (go_at_call 84; refine SM.mono ?_; rintro e q2 ⟨rfl,hq2⟩; have V2:=undrew hq2; have S1':=KS.out _ V2)
     go_wp2_with fail
     refine hK.out _ _ ?_ (fun hHeld=>?_)
     ·with_reducible exact S1'
     clear hK K
     try simp only [Act.put,List.setIfInBounds_toArray,List.set_cons_zero,List.set_cons_succ]
     refine tk 6 (h:=?_)
     refine tk 7 (h:=?_)
     refine tko 8 (h:=?_)
     refine tko 9 (h:=?_)
     refine tko 10 (h:=?_)
     refine tko 11 (h:=?_)
     refine tko 12 (h:=?_)
     refine tko 13 (h:=?_)
     refine tko 14 (h:=?_)
     refine tko 15 (h:=?_)
     refine tk 16 (h:=?_)
     refine wpAnyH_done (by kernel_rfl) ?_ _
     go_wp2_with fail
     go_ret2
     exact ⟨rfl,T2.trans ((hVa.trans (V2.mono hVa.size)).mono T2.size)⟩
   | true =>
     obtain ⟨QN,HQN⟩:=nm ((lchain != rchain))
     have q1:(lchain != rchain)=QN:=HQN.out
     have hG:Hid (QN=false->∀ j,j < k+1->QF j=true):=fun h=>HG.out (by
      rw [h] at q1
      rw [decide_eq_true (by simpa using q1)]; rfl)
     have hF:Hid (QN=true->k=FN):=fun h=>(HB.out (by
      rw [h] at q1
      rw [decide_eq_false (by rw [bne_iff_ne] at q1; exact q1)]; rfl)).symm
     clear HB HG HQN
     go_wp2_with fail
     go_region_held3 (fun q=>q.cell? ⟨wr.heap.size,0,none⟩=some (.int .i64 ls)/\q.cell? ⟨wr.heap.size,1,none⟩=some (.slice lla lln llk)/\q.cell? ⟨wr.heap.size,2,none⟩=some (.int .i64 lr)/\q.cell? ⟨wr.heap.size,3,none⟩=some (.int .u64 lroot)/\q.cell? ⟨wr.heap.size,4,none⟩=some (.int .u64 lchain)/\q.cell? ⟨g,k * 5,none⟩=some (.int .i64 rs)/\q.cell? ⟨g,k * 5+1,none⟩=some (.slice ra rn rk)/\q.cell? ⟨g,k * 5+2,none⟩=some (.int .i64 rr)/\q.cell? ⟨g,k * 5+3,none⟩=some (.int .u64 rroot)/\q.cell? ⟨g,k * 5+4,none⟩=some (.int .u64 rchain)) (first | with_reducible exact S1' | with_reducible exact S0) (((go_at_call 84; refine SM.mono ?_; rintro e q2 ⟨rfl,hq2⟩; have V2:=undrew hq2; have S1':=KS.out _ V2)))
     all_goals
      cases QN with
      | false =>
        go_wp2_with fail
        go_roundw
        case rel=>exact ⟨k+1,by omega,by go_num,(hG.out (by trivial)),hVa.trans (V2.mono hVa.size)⟩
        case measure=>simp [intOf]; omega
      | true =>
        have hF2:=hF.out (by trivial)
        subst hF2
        go_wp2_with fail
        go_ret2
        exact ⟨rfl,T2.trans ((hVa.trans (V2.mono hVa.size)).mono T2.size)⟩
  ·obtain rfl:k=ln:=by omega
   have hF:=(HF.out k nr hg.out (fun h=>by omega)).symm
   subst hF
   clear hR HL2 HLN HQ3 HF
   go_wp2_with fail
   go_ret2
   exact ⟨rfl,T2.trans (hbel.mono T2.size)⟩
theorem whole_calls (c:Cfg) (hs:okW c.seed) (a:Option Addr) (n cap:Nat) (X:Nat->Exm) (DI DO:Nat->List Int) (la:Option Addr) (ln lc:Nat) (L:Nat->Rcm) (DL:Nat->List Int) (w:World) (hx:Exs w a n cap X DI DO) (hl:Recs w la ln lc L DL) (hL:∀ j,j < ln->(L j).n<=9223372036854775807) :
  Calls Tryz.prog 51 #[c.val,.slice a n cap,.slice la ln lc] w fun e w'=>e=.returned (.tuple #[.int .i64 (whN c n X DI DO ln L DL:Nat),.int .i64 (whE c n X DI DO ln)])/\Below w.heap.size w w':=by
 have hal:=Zac w (.cells c.cells 50)
 have CK:=Zbd c a n cap X DI DO _ (hx.below hal nr)
 have KB:Hid (∀ q,Below (w.alloc (.cells c.cells 50)).heap.size (w.alloc (.cells c.cells 50)) q->BoxC q w.heap.size c):=fun q hq=>boxC hq (by simp)
 by_cases h0:courseI c n X DI DO=0
 ·by_cases hm:(ln:Int)<=c.steps
  ·have hE:whE c n X DI DO ln=0:=by unfold whE; rw [if_pos h0,if_pos hm]
   have hN:whN c n X DI DO ln L DL=firstNo (auB c n DI DO L DL) ln:=by unfold whN; rw [if_pos hE]
   rw [hE,hN]
   exact whole_good c hs a n cap X DI DO la ln lc L DL w hx hl hL h0 hm
  ·have hE:whE c n X DI DO ln=2:=by unfold whE; rw [if_pos h0,if_neg hm]
   have hN:whN c n X DI DO ln L DL=0:=by unfold whN; rw [hE,if_neg (by decide)]
   rw [hE,hN]
   rw [h0] at CK
   have z1:c.steps < (ln:Int):=by omega
   clear hE hN hx hl hL hs h0 hm
   obtain ⟨i,h,o,seed,batch,steps,crate,decay,how,keep,clip⟩:=c
   simp only [Cfg.val,Cfg.cells] at *
   obtain ⟨c0,c1,c2,c3,c4,c5,c6,c7,c8,c9,c10⟩:=KB.out _ br
   dsimp only at c0 c1 c2 c3 c4 c5 c6 c7 c8 c9 c10
   go_enter Tryz.func51,Tryz.ntmps51
   go_wp2_with fail
   refine CK.mono ?_
   rintro e w1 ⟨rfl,hw1⟩
   clear c0 c1 c2 c3 c4 c5 c6 c7 c8 c9 c10
   obtain ⟨c0,c1,c2,c3,c4,c5,c6,c7,c8,c9,c10⟩:=KB.out _ hw1
   dsimp only at c0 c1 c2 c3 c4 c5 c6 c7 c8 c9 c10
   have T1:=hal.trans (hw1.mono hal.size)
   go_wp2_with fail
   go_ret2
   exact ⟨rfl,T1⟩
 ·have hE:whE c n X DI DO ln=courseI c n X DI DO:=by unfold whE; rw [if_neg h0]
  have hN:whN c n X DI DO ln L DL=0:=by unfold whN; rw [hE,if_neg h0]
  have hb:(courseI c n X DI DO != 0)=true:=by rw [bne_iff_ne]; exact h0
  rw [hE,hN]
  generalize courseI c n X DI DO=E at *
  clear hE hN hx hl hL hs
  obtain ⟨i,h,o,seed,batch,steps,crate,decay,how,keep,clip⟩:=c
  simp only [Cfg.val,Cfg.cells] at *
  obtain ⟨c0,c1,c2,c3,c4,c5,c6,c7,c8,c9,c10⟩:=KB.out _ br
  dsimp only at c0 c1 c2 c3 c4 c5 c6 c7 c8 c9 c10
  go_enter Tryz.func51,Tryz.ntmps51
  go_wp2_with fail
  refine CK.mono ?_
  rintro e w1 ⟨rfl,hw1⟩
  go_wp2_with fail
  go_ret2
  exact ⟨rfl,hal.trans (hw1.mono hal.size)⟩
end Go.Proofs.YthmiojmlaclgaaaGreatDoor.Fx
