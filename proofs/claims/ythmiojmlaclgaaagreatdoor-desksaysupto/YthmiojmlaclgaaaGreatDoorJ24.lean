/- What the law stands on: RefJrB AudP EqBig TopResP. -/
import Derived.Test.YthmiojmlaclgaaaGreatDoorJ00
import Derived.Test.YthmiojmlaclgaaaGreatDoorJ05
import Derived.Test.YthmiojmlaclgaaaGreatDoorJ04
import Derived.Test.YthmiojmlaclgaaaGreatDoorJ01
import Derived.Test.YthmiojmlaclgaaaGreatDoorJ21
set_option maxRecDepth 100000
set_option maxHeartbeats 12800000
namespace Go.Proofs.YthmiojmlaclgaaaGreatDoor.Fx
open Go.RowKit
def likeB (x y:Rcm) (xs ys:List Int):Bool:=decide (x.s=y.s) && decide (x.r=y.r) && decide (x.root=y.root) && decide (xs=ys)
def recB (x y:Rcm) (xs ys:List Int):Bool:=likeB x y xs ys && decide (x.chain=y.chain)
theorem beq_dec (x y:Int):(x == y)=decide (x=y):=by
 by_cases h:x=y
 ·rw [decide_eq_true h]; simpa using h
 ·rw [decide_eq_false h]; simpa using h
def firstNo (f:Nat->Bool):Nat->Nat
 | 0=>0
 | n+1=>if firstNo f n < n then firstNo f n else if f n=true then n+1 else n
theorem ZcN (f:Nat->Bool):∀ (n k:Nat),k<=n->(∀ j,j < k->f j=true)->(k < n->f k=false)->firstNo f n=k
 | 0,k,h1,_,_=>by unfold firstNo; omega
 | n + 1, k, h1, h2, h3 => by
   by_cases hk:k<=n
   ·have ih:=ZcN f n k hk h2 (fun h=>h3 (by omega))
    unfold firstNo
    rw [ih]
    by_cases e:k < n
    ·rw [if_pos e]
    ·obtain rfl:k=n:=by omega
     rw [if_neg e,if_neg (by rw [h3 (by omega)]; decide)]
   ·obtain rfl:k=n+1:=by omega
    have ih:=ZcN f n n nr (fun j hj=>h2 j (by omega)) (fun h=>by omega)
    unfold firstNo
    rw [ih,if_neg (by omega),if_pos (h2 n (by omega))]
theorem ZcO (f:Nat->Bool):∀ n,firstNo f n<=n
 | 0=>nr
 | n + 1 => by
   have ih:=ZcO f n
   unfold firstNo
   by_cases h:firstNo f n < n
   ·rw [if_pos h]; omega
   ·rw [if_neg h]
    by_cases h2:f n=true
    ·rw [if_pos h2]; omega
    ·rw [if_neg h2]; omega
def auB (c:Cfg) (n:Nat) (DI DO:Nat->List Int) (L:Nat->Rcm) (DL:Nat->List Int) (j:Nat):Bool :=
 decide ((L j).s=(j:Int)) && decide ((L j).r=mkRV c j) && decide ((L j).root=mkRO c n DI DO j) && decide (DL j=jrBatch c n j) && decide ((L j).chain=mkCH c n DI DO (j+1))
theorem auB_is {c:Cfg} {n:Nat} {DI DO:Nat->List Int} {m:Nat} {R:Nat->Rcm} (h:JrN m R (mkRV c) (mkRO c n DI DO) (mkCH c n DI DO)) (L:Nat->Rcm) (DL:Nat->List Int) {j:Nat} (hj:j < m):auB c n DI DO L DL j=recB (L j) (R j) (DL j) (jrBatch c n j):=by
 obtain ⟨e1,e2,e3,e4⟩:=h j hj
 unfold auB recB likeB
 rw [e1,e2,e3,e4]
def whE (c:Cfg) (n:Nat) (X:Nat->Exm) (DI DO:Nat->List Int) (m:Nat):Int:=if courseI c n X DI DO=0 then (if (m:Int)<=c.steps then 0 else 2) else courseI c n X DI DO
def whN (c:Cfg) (n:Nat) (X:Nat->Exm) (DI DO:Nat->List Int) (m:Nat) (L:Nat->Rcm) (DL:Nat->List Int):Nat:=if whE c n X DI DO m=0 then firstNo (auB c n DI DO L DL) m else 0
theorem eq_big (a b:Option Addr) (la ca lb cb:Nat) (xs ys:List Int) (w:World) (ha:Lst w a la ca xs) (hb:Lst w b lb cb ys) (h63:la<=9223372036854775807) :
  Calls Tryz.prog 125 #[.slice a la ca,.slice b lb cb] w fun e w'=>e=.returned (.bool (decide (xs=ys)))/\∃ k,w'=w.drewN k:=by
 by_cases hl:la=lb
 ·subst hl
  have hab:((la:Int) != (la:Int))=false:=by simp
  go_enter Tryz.func125,Tryz.ntmps125
  go_wp2
  go_loopw [13] (fun i wr=>∃ k n:Nat,k<=la/\i=.int .i64 k/\Hid (∀ j,j < k->xs.getD j 0=ys.getD j 0)/\wr=w.drewN n) (fun i _=>la - (intOf i).toNat)
  case atStart=>exact ⟨0,0,Nat.zero_le _,rfl,fun j hj=>by omega,rfl⟩
  case round =>
   obtain ⟨k,n,hk,rfl,he,rfl⟩:=hrel
   by_cases hlt:k < la
   ·obtain ⟨b1,o1,x,rfl,_,c1,HX⟩:=ha.at1 hlt
    obtain ⟨b2,o2,y,rfl,_,c2,HY⟩:=hb.at1 hlt
    by_cases hxy:x=y
    ·subst hxy
     have hne:(x != x)=false:=by simp
     go_wp2
     go_quiet (fail)
     go_wp2
     go_roundw
     case rel=>exact ⟨k+1,_,by omega,by go_num,fun j hj=>by
      by_cases e:j=k
      ·subst e; rw [HX.out,HY.out]
      ·exact he.out j (by omega),rfl⟩
     case measure=>simp [intOf]; omega
    ·have hne:(x != y)=true:=by simpa using hxy
     go_wp2
     go_quiet (fail)
     go_wp2
     go_ret
     refine ⟨Zai ?_,_,World.drewN_drewN _ _ _⟩
     exact (decide_eq_false (fun e=>hxy (by rw [← HX.out,← HY.out,e]))).symm
   ·go_wp2
    go_ret
    refine ⟨Zai ?_,_,rfl⟩
    exact (decide_eq_true (eq_of_getD ha.len hb.len (fun j hj=>he.out j (by omega)))).symm
 ·have hab:((la:Int) != (lb:Int))=true:=by rw [bne_iff_ne]; omega
  go_enter Tryz.func125,Tryz.ntmps125
  go_wp2
  go_ret
  refine ⟨Zai ?_,0,rfl⟩
  exact (decide_eq_false (fun e=>hl (by rw [← ha.len,← hb.len,e]))).symm
theorem rlike_big (x y:Rcm) (xs ys:List Int) (w:World) (l1:Lst w x.a x.n x.k xs) (l2:Lst w y.a y.n y.k ys) (hn:x.n<=9223372036854775807) :
  Calls Tryz.prog 107 #[x.val,y.val] w fun e w'=>e=.returned (.bool (likeB x y xs ys))/\Below w.heap.size w w':=by
 have hal:=(Zac w (.cells x.cells 111)).trans ((Zac (w.alloc (.cells x.cells 111)) (.cells y.cells 111)).mono (Zac w (.cells x.cells 111)).size)
 have m1:=l1.below hal nr
 have m2:=l2.below hal nr
 unfold likeB
 clear l1 l2
 obtain ⟨s,a,n,k,r,root,chain⟩:=x
 obtain ⟨s',a',n',k',r',root',chain'⟩:=y
 simp only [Rcm.val,Rcm.cells] at *
 by_cases h1:s=s'
 rotate_left
 ·have qh1:(s == s')=false:=by simpa using h1
  go_enter Tryz.func107,Tryz.ntmps107
  go_wp2_with fail
  go_ret
  exact ⟨Zai (by simp [h1]),hal⟩
 have qh1:(s == s')=true:=by simpa using h1
 by_cases h2:r=r'
 rotate_left
 ·have qh2:(r == r')=false:=by simpa using h2
  clear h1
  go_enter Tryz.func107,Tryz.ntmps107
  go_wp2_with fail
  go_ret
  exact ⟨Zai (by simp [h2]),hal⟩
 have qh2:(r == r')=true:=by simpa using h2
 by_cases h3:root=root'
 rotate_left
 ·have qh3:(root == root')=false:=by simpa using h3
  clear h1 h2
  go_enter Tryz.func107,Tryz.ntmps107
  go_wp2_with fail
  go_ret
  exact ⟨Zai (by simp [h3]),hal⟩
 have qh3:(root == root')=true:=by simpa using h3
 have HL:Hid ((decide (s=s') && decide (r=r') && decide (root=root') && decide (xs=ys))=decide (xs=ys)):=by show _=_; rw [decide_eq_true h1,decide_eq_true h2,decide_eq_true h3]; simp
 clear h1 h2 h3
 go_enter Tryz.func107,Tryz.ntmps107
 go_wp2_with fail
 refine (eq_big _ _ _ _ _ _ xs ys _ m1 m2 (by omega)).mono ?_
 rintro e w1 ⟨rfl,k5,hw5⟩
 subst hw5
 go_wp2_with fail
 go_ret
 exact ⟨Zai (by rw [HL.out]),Zab hal _⟩
def GoodL (LL:Nat->Ln) (N:Nat):Prop:=∀ j,j < N->(LL j).ok/\(LL j).s=(j:Int)
def jrL (c:Cfg) (n:Nat) (DI DO:Nat->List Int) (k:Nat):Ln:=⟨(k:Int),mkRV c k,mkRO c n DI DO k,mkCH c n DI DO (k+1),jrBatch c n k⟩
theorem jrL_good {c:Cfg} {n:Nat} {X:Nat->Exm} {DI DO:Nat->List Int} (hF:courseI c n X DI DO=0) (h40:c.steps<=40) (h8:c.batch.toNat<=8) {N:Nat} (hN:(N:Int)<=c.steps):GoodL (jrL c n DI DO) N:=fun j hj=>by
 obtain ⟨hc,hn1,hn16,_⟩:=Zbr hF
 have hr:=rateV_in hc (j:Int) (by omega) (by omega)
 unfold inB at hr
 rw [Bool.and_eq_true,decide_eq_true_eq,decide_eq_true_eq] at hr
 have hlen:(jrBatch c n j).length=c.batch.toNat:=by unfold jrBatch batchP; rw [List.length_map,List.length_range]
 refine ⟨⟨⟨by show (0:Int)<=(j:Int); omega,by show (j:Int)<=99; omega⟩,hr,ZbO _ _,ZbO _ _,by show (jrBatch c n j).length<=8; omega,fun z hz=>?_⟩,rfl⟩
 obtain ⟨i,hi,rfl⟩:=mem_getD (D:=jrBatch c n j) hz
 obtain ⟨m,hm,e⟩:=batch_in c.seed c.batch.toNat n (j * c.batch.toNat) hn1 (k:=i) (by omega)
 have e2:(jrBatch c n j).getD i 0=(m:Int):=e
 rw [e2]
 omega
theorem jrL_is {c:Cfg} {n k:Nat} {DI DO:Nat->List Int} {R:Nat->Rcm} (h:JrN k R (mkRV c) (mkRO c n DI DO) (mkCH c n DI DO)) {j:Nat} (hj:j < k):(R j).ln (jrBatch c n j)=jrL c n DI DO j:=by
 obtain ⟨h1,h2,h3,h4⟩:=h j hj
 unfold Rcm.ln jrL
 rw [h1,h2,h3,h4]
end Go.Proofs.YthmiojmlaclgaaaGreatDoor.Fx
