/- What the law stands on: RefDigA RefDigB RefDigC RefTreeA RefTreeD Twos RefOptC RefTrC RefTrB. -/
import Derived.Test.YthmiojmlaclgaaaGreatDoorJ00
import Derived.Deep.RegionHeld3
import Derived.Test.YthmiojmlaclgaaaGreatDoorJ05
import Derived.BigRegion
import Derived.Deep.RegionWith
import Derived.Test.YthmiojmlaclgaaaGreatDoorJ06
import Derived.Test.YthmiojmlaclgaaaGreatDoorJ09
import Derived.Test.YthmiojmlaclgaaaGreatDoorJ08
import Derived.Test.YthmiojmlaclgaaaGreatDoorJ04
import Derived.Deep.RegionLaw
set_option maxRecDepth 100000
set_option maxHeartbeats 12800000
namespace Go.Proofs.YthmiojmlaclgaaaGreatDoor.Fx
open Go.RowKit
theorem rplus_calls (a b:Int) (ha:okW a) (hb:okW b) (w:World):Calls Tryz.prog 205 #[.int .u64 a,.int .u64 b] w fun e w'=>e=.returned (.int .u64 (addP a b))/\w'=w:=by
 obtain ⟨a0,a1⟩:=ha
 obtain ⟨b0,b1⟩:=hb
 go_enter Tryz.func205,Tryz.ntmps205
 go_wp2
 go_ret
 exact ⟨ZaV (rest_add a b),rfl⟩
theorem rtimes_calls (a b:Int) (ha:okP a) (hb:okP b) (w:World):Calls Tryz.prog 227 #[.int .u64 a,.int .u64 b] w fun e w'=>e=.returned (.int .u64 (mulP a b))/\w'=w:=by
 have HB:Hid (okP b):=hb
 obtain ⟨a0,a1⟩:=ha
 obtain ⟨b0,b1⟩:=hb
 have am:a % 2305843009213693951=a:=by omega
 have bm:b % 2305843009213693951=b:=by omega
 go_enter Tryz.func227,Tryz.ntmps227
 go_wp2
 go_loop [5,6] (fun s i=>∃ (k:Nat) (x:Int),k<=61/\i=.int .i64 ((k:Int) - 1)/\s=.int .u64 x/\Hid (x=dblTo a b k)) (fun _ i=>((intOf i)+1).toNat)
 case atStart=>exact ⟨61,0,by omega,rfl,rfl,(dbl_top a b HB.out).symm⟩
 case round =>
  obtain ⟨k,x,hk,rfl,rfl,HX⟩:=hrel
  have hx:okP x:=by rw [HX.out]; exact dbl_ok _ _ _
  obtain ⟨x0,x1⟩:=hx
  cases k with
  | zero =>
    go_wp2
    go_ret
    exact ⟨ZaV (by rw [HX.out,dbl_end]),rfl⟩
  | succ j =>
    go_wp2
    all_goals
     rename_i hc
     have q0:0<=b / 2 ^ j:=Int.ediv_nonneg b0 (Int.pow_nonneg (by omega))
     rw [Int.tmod_eq_emod_of_nonneg q0] at hc
     simp only [beq_iff_eq,beq_eq_false_iff_ne,ne_eq] at hc
     go_round
     case measure=>simp [intOf]
    ·exact ⟨j,_,by omega,rfl,rfl,by rw [HX.out]; exact dbl_step1 _ _ _ hc⟩
    ·exact ⟨j,_,by omega,rfl,rfl,by rw [HX.out]; exact dbl_step0 _ _ _ (by omega)⟩
theorem Tri.at_ok {s:Tri} (h:s.ok) (k:Nat):okP (s.at k):=by
 unfold Tri.at
 split
 ·exact h.1
 ·split
  ·exact h.2.1
  ·exact h.2.2
structure PowRel (t:Nat) (w:World) (s p:Tri) (b j:Nat) (wr:World):Prop where
 mix:MixRel t w s wr
 row:wr.rowIs b t 3 (rowToW p.at j)
 ge:w.heap.size+1 < b
theorem PowRel.start {t:Nat} {w wr:World} {s:Tri} (h:MixRel t w s wr) (p:Tri):PowRel t w s p wr.heap.size 0 (wr.alloc (.cells #[.int .u64 0,.int .u64 0,.int .u64 0] t)):=by
 have h1:=h.res.lt
 refine ⟨⟨h.box.alloc _,h.res.alloc _,h.old.alloc h.old.size _⟩,ZbY ((fnT_alloc wr 0 0 0 t).congr (fun i hi=>?_)),h1⟩
 rcases lt3 hi with rfl | rfl | rfl <;> rfl
theorem PowRel.step {t:Nat} {w wr:World} {s p:Tri} {b j:Nat} (h:PowRel t w s p b j wr) {x:Int} (hx:p.at j=x):PowRel t w s p b (j+1) (wr.setCell ⟨b,j,none⟩ (.int .u64 x)):=by
 have hge:=h.ge
 subst hx
 exact ⟨⟨h.mix.box.setOther (by simp; omega) _,h.mix.res.setOther (by simp; omega) _,h.mix.old.setCell (by simp; omega) _⟩,ZbX h.row,hge⟩
def half (s q:Tri) (j i:Nat):Value:=if i < j then .int .u64 (q.at i) else .int .u64 (s.at i)
structure SumRel (t:Nat) (w:World) (s p q:Tri) (b j:Nat) (wr:World):Prop where
 box:wr.rowIs w.heap.size t 3 (half s q j)
 res:wr.rowIs (w.heap.size+1) t 3 (fnT ⟨0,0,0⟩)
 row:wr.rowIs b t 3 (fnT p)
 ge:w.heap.size+1 < b
 old:Below w.heap.size w wr
theorem SumRel.start {t:Nat} {w wr:World} {s p:Tri} {b:Nat} (h:PowRel t w s p b 3 wr) (q:Tri):SumRel t w s p q b 0 wr:=by
 refine ⟨h.mix.box.congr (fun i hi=>?_),h.mix.res,h.row.congr (fun i hi=>?_),h.ge,h.mix.old⟩
 ·rcases lt3 hi with rfl | rfl | rfl <;> rfl
 ·rcases lt3 hi with rfl | rfl | rfl <;> rfl
theorem SumRel.step {t:Nat} {w wr:World} {s p q:Tri} {b j:Nat} (h:SumRel t w s p q b j wr) {x:Int} (hx:q.at j=x) (d:Nat):SumRel t w s p q b (j+1) ((wr.setCell ⟨w.heap.size,j,none⟩ (.int .u64 x)).drewN d):=by
 have hge:=h.ge
 subst hx
 refine ⟨Zap ((h.box.set j _).congr (fun i hi=>?_)) d,Zap (h.res.setOther (by simp) _) d,Zap (h.row.setOther (by simp; omega) _) d,hge,Zab (h.old.setCell nr _) d⟩
 unfold half
 by_cases e:i=j
 ·subst e; rw [if_pos rfl,if_pos (by omega)]
 ·rw [if_neg e]
  by_cases e2:i < j
  ·rw [if_pos e2,if_pos (by omega)]
  ·rw [if_neg e2,if_neg (by omega)]
theorem SumRel.end {t:Nat} {w wr:World} {s p q:Tri} {b:Nat} (h:SumRel t w s p q b 3 wr):MixRel t w q wr:=by
 refine ⟨h.box.congr (fun i hi=>?_),h.res,h.old⟩
 rcases lt3 hi with rfl | rfl | rfl <;> rfl
theorem half_cell {t:Nat} {w wr:World} {s p q:Tri} {b j:Nat} (h:SumRel t w s p q b j wr) (hj:j < 3):wr.cell? ⟨w.heap.size,j,none⟩=some (.int .u64 (s.at j)):=by
 rw [h.box.cell hj]; unfold half; rw [if_neg (by omega)]
theorem pows_at (n:Int) (s:Tri) {j:Nat} (h:j < 3) {m:Int} (hm:m=n * ((j:Int)+1)):(pows n s).at j=powP (addP (s.at j) m):=by
 subst hm
 rcases lt3 h with rfl | rfl | rfl
 ·show powP (addP s.x n)=powP (addP s.x (n * (((0:Nat):Int)+1)))
  rw [show n * (((0:Nat):Int)+1)=n from by omega]
 ·show powP (addP s.y (2 * n))=powP (addP s.y (n * (((1:Nat):Int)+1)))
  rw [show n * (((1:Nat):Int)+1)=2 * n from by omega]
 ·show powP (addP s.z (3 * n))=powP (addP s.z (n * (((2:Nat):Int)+1)))
  rw [show n * (((2:Nat):Int)+1)=3 * n from by omega]
theorem sums_at (t:Tri) {j:Nat} (h:j < 3):(sums t).at j=addP (addP t.x t.y) (addP t.z (t.at j)):=by
 rw [four_add]
 rcases lt3 h with rfl | rfl | rfl <;> rfl
theorem rmixed_calls (s:Tri) (hs:s.ok) (w:World):Calls Tryz.prog 204 #[.agg #[.int .u64 s.x,.int .u64 s.y,.int .u64 s.z]] w fun e w'=>e=.returned (aggT (mixP s))/\Below w.heap.size w w':=by
 have HS:Hid s.ok:=hs
 clear hs
 go_enter Tryz.func204,Tryz.ntmps204
 go_wp2
 go_loopw [3] (fun i wr=>∃ (k:Nat) (n:Int) (t:Tri),k<=6/\i=.int .i64 n/\n=(k:Int)+1/\Hid (t=mixTo s k)/\MixRel 231 w t wr) (fun i _=>7 - (intOf i).toNat)
 case atStart=>exact ⟨0,1,s,by omega,rfl,rfl,rfl,MixRel.start _ _ _ _ _⟩
 case round =>
  obtain ⟨k,n,t,hk,rfl,hn,HT,R⟩:=hrel
  have HN:Hid (n=(k:Int)+1):=hn
  by_cases hlt:n<=6
  ·have ht:t.ok:=by rw [HT.out]; exact mixTo_ok HS.out k
   have HO:Hid t.ok:=ht
   have m0:1<=n:=by omega
   have HM:Hid (sums (pows n t)=mixTo s (k+1)):=by rw [hn,HT.out]; rfl
   clear hn ht
   go_wp2
   generalize hwr:wr=w1 at *
   clear hwr
   go_loopw [5] (fun i wr=>∃ j:Nat,j<=3/\i=.int .i64 j/\PowRel 231 w t (pows n t) w1.heap.size j wr) (fun i _=>3 - (intOf i).toNat)
   case atStart=>exact ⟨0,by omega,rfl,PowRel.start R _⟩
   case round =>
    clear R
    obtain ⟨j,hj,rfl,R⟩:=hrel
    by_cases hj3:j < 3
    ·have c1:wr.cell? ⟨w.heap.size,j,none⟩=some (.int .u64 (t.at j)):=by rw [R.mix.box.cell hj3,fnT_at hj3]
     obtain ⟨m,hm⟩:∃ m,n * ((j:Int)+1)=m:=⟨_,rfl⟩
     have HP:Hid ((pows n t).at j=powP (addP (t.at j) m)):=pows_at n t hj3 hm.symm
     have bm:0<=m/\m<=18:=by
      rcases lt3 hj3 with rfl | rfl | rfl <;> omega
     obtain ⟨bm0,bm1⟩:=bm
     have o1:okW (t.at j):=okP_W (Tri.at_ok HO.out j)
     have o2:okW m:=⟨by omega,by omega⟩
     have c3:=ZbE R.row hj3
     have f3:=R.row.frozen j
     go_wp2_with (go_at_call 205; refine (rplus_calls _ _ o1 o2 _).mono ?_; rintro e w' ⟨rfl,hw'⟩; replace hw':=hw'.symm; subst hw')
     have oX:=ZbD (t.at j) m
     have HQ:=HP.out
     generalize addP (t.at j) m=X at *
     replace HQ:Hid ((pows n t).at j=powP X):=HQ
     clear HP hm
     go_loop [7,8] (fun y i=>∃ (q:Nat) (x:Int),q<=4/\i=.int .i64 q/\y=.int .u64 x/\Hid (x=sqTo X q)) (fun _ i=>4 - (intOf i).toNat)
     case atStart=>exact ⟨0,X,by omega,rfl,rfl,rfl⟩
     case round =>
      obtain ⟨q,x,hq,rfl,rfl,HX⟩:=hrel
      have ox:okP x:=by rw [HX.out]; exact sqTo_ok oX q
      by_cases hq4:q < 4
      ·go_wp2_with (go_at_call 227; refine (rtimes_calls _ _ ox ox _).mono ?_; rintro e w' ⟨rfl,hw'⟩; replace hw':=hw'.symm; subst hw')
       go_round
       case rel=>exact ⟨q+1,_,by omega,by go_num,rfl,by rw [HX.out]; rfl⟩
       case measure=>simp [intOf]; omega
      ·obtain rfl:q=4:=by omega
       go_wp2_with (go_at_call 227; refine (rtimes_calls _ _ ox oX _).mono ?_; rintro e w' ⟨rfl,hw'⟩; replace hw':=hw'.symm; subst hw')
       go_roundw
       case rel=>exact ⟨j+1,by omega,by go_num,R.step (by rw [HQ.out,HX.out]; rfl)⟩
       case measure=>simp [intOf]; omega
    ·have e3:j=3:=by omega
     have S:=SumRel.start (e3 ▸ R) (sums (pows n t))
     clear e3
     have hp:=pows_ok n t
     have HQ:Hid (∀ i,i < 3->(sums (pows n t)).at i=addP (addP (pows n t).x (pows n t).y) (addP (pows n t).z ((pows n t).at i))):=fun i hi=>sums_at _ hi
     clear R
     generalize pows n t=p at *
     generalize hwr:wr=w2 at *
     clear hwr
     go_wp2
     go_loopw [9] (fun i wr=>∃ j:Nat,j<=3/\i=.int .i64 j/\SumRel 231 w t p (sums p) w1.heap.size j wr) (fun i _=>3 - (intOf i).toNat)
     case atStart=>exact ⟨0,by omega,rfl,S⟩
     case round =>
      clear S
      obtain ⟨j,hj,rfl,S⟩:=hrel
      by_cases hj3:j < 3
      ·have c1:=half_cell S hj3
       have f1:=S.box.frozen j
       obtain ⟨r0,r1,r2⟩:=ZaM S.row
       have r3:wr.cell? ⟨w1.heap.size,j,none⟩=some (.int .u64 (p.at j)):=by rw [S.row.cell hj3,fnT_at hj3]
       have o0:=okP_W hp.1
       have o1:=okP_W hp.2.1
       have o2:=okP_W hp.2.2
       have o3:=okP_W (Tri.at_ok hp j)
       have o4:=okP_W (ZbD p.x p.y)
       have o5:=okP_W (ZbD p.z (p.at j))
       have HR:Hid ((sums p).at j=addP (addP p.x p.y) (addP p.z (p.at j))):=HQ.out j hj3
       have T1:∀ v:Value,(wr.setCell ⟨w.heap.size,j,none⟩ v).drew.cell? ⟨w1.heap.size,0,none⟩=some (.int .u64 p.x)/\(wr.setCell ⟨w.heap.size,j,none⟩ v).drew.cell? ⟨w1.heap.size,1,none⟩=some (.int .u64 p.y)/\(wr.setCell ⟨w.heap.size,j,none⟩ v).drew.cell? ⟨w1.heap.size,2,none⟩=some (.int .u64 p.z)/\(wr.setCell ⟨w.heap.size,j,none⟩ v).drew.cell? ⟨w1.heap.size,j,none⟩=some (.int .u64 (p.at j)):=by
        intro v
        have hge:=S.ge
        have h:(wr.setCell ⟨w.heap.size,j,none⟩ v).drew.rowIs w1.heap.size 231 3 (fnT p):=Zap (S.row.setOther (by simp; omega) v) 1
        obtain ⟨z0,z1,z2⟩:=ZaM h
        exact ⟨z0,z1,z2,by rw [h.cell hj3,fnT_at hj3]⟩
       go_wp2
       go_region_held3 (fun q=>q.cell? ⟨w1.heap.size,0,none⟩=some (.int .u64 p.x)/\q.cell? ⟨w1.heap.size,1,none⟩=some (.int .u64 p.y)/\q.cell? ⟨w1.heap.size,2,none⟩=some (.int .u64 p.z)/\q.cell? ⟨w1.heap.size,j,none⟩=some (.int .u64 (p.at j))) (first | go_keep | with_reducible exact T1 _)
        (first | (go_at_call 205; refine (rplus_calls _ _ (by with_reducible assumption) (by with_reducible assumption) _).mono ?_; rintro e w' ⟨rfl,rfl⟩))
       go_wp2
       go_roundw
       case rel=>exact ⟨j+1,by omega,by go_num,S.step HR.out 1⟩
       case measure=>simp [intOf]; omega
      ·obtain rfl:j=3:=by omega
       go_wp2
       go_roundw
       case rel =>
        have hn:=HN.out
        exact ⟨k+1,_,_,by omega,rfl,by omega,HM.out,S.end⟩
       case measure=>simp [intOf]; omega
  ·have e7:n=7:=by omega
   subst e7
   obtain rfl:k=6:=by omega
   obtain ⟨c0,c1,c2⟩:=ZaM R.box
   obtain ⟨r0,r1,r2⟩:=ZaM R.res
   have f0:=R.res.frozen 0
   have f1:=R.res.frozen 1
   have f2:=R.res.frozen 2
   go_wp2
   have hq:=fnT_set3 R.res t.x t.y t.z
   obtain ⟨q0,q1,q2⟩:=ZaM hq
   refine bodyPost_ret (v:=aggT t) (by simp [results,Tryz.results204,go_sem,q0,q1,q2,aggT]) rfl ⟨by rw [HT.out]; rfl,?_⟩
   exact ((R.old.setCell (Nat.le_succ _) _).setCell (Nat.le_succ _) _).setCell (Nat.le_succ _) _
theorem rmixed3 (x y z:Int) (hx:okP x) (hy:okP y) (hz:okP z) (w:World):Calls Tryz.prog 204 #[.agg #[.int .u64 x,.int .u64 y,.int .u64 z]] w fun e w' =>
  ∃ m:Tri,Hid (m=mixP ⟨x,y,z⟩)/\e=.returned (.agg #[.int .u64 m.x,.int .u64 m.y,.int .u64 m.z])/\Below w.heap.size w w':=by
 refine (rmixed_calls ⟨x,y,z⟩ ⟨hx,hy,hz⟩ w).mono ?_
 rintro e w' ⟨rfl,h⟩
 exact ⟨_,rfl,rfl,h⟩
theorem Zcx (kind:Int) (hk:okW kind) (a:Option Addr) (len cap:Nat) (xs:List Int) (w:World) (ha:LstW w a len cap xs) (hx:okL xs) (hlen:len<=200) :
  Calls Tryz.prog 148 #[.int .u64 kind,.slice a len cap] w fun e w'=>e=.returned (.int .u64 (ofP kind xs))/\Below w.heap.size w w':=by
 obtain ⟨k0,k1⟩:=hk
 have p0:okP (kind % 2305843009213693951):=⟨by omega,by omega⟩
 have p1:okP (len:Int):=⟨by omega,by omega⟩
 have p2:okP 1:=⟨by omega,by omega⟩
 have HX:Hid (okL xs):=hx
 have HL:Hid (xs.length=len):=ha.len
 clear hx
 go_enter Tryz.func148,Tryz.ntmps148
 go_wp2_with (go_at_call 204; refine (rmixed3 _ _ _ p0 p1 p2 _).mono ?_; rintro e w1 ⟨m,HM,rfl,hw1⟩)
 go_loopw [6] (fun i wr=>∃ (k:Nat) (t:Tri),k<=len/\i=.int .i64 k/\Hid (t=ofTo kind xs k)/\OfRel 231 w w1.heap.size t wr) (fun i _=>len - (intOf i).toNat)
 case atStart=>exact ⟨0,m,Nat.zero_le _,rfl,by rw [HM.out,← HL.out]; rfl,OfRel.start hw1 _ _ _⟩
 case round =>
  obtain ⟨k,t,hk,rfl,HT,R⟩:=hrel
  obtain ⟨c0,c1,c2⟩:=ZaM R.box
  by_cases hlt:k < len
  ·obtain ⟨b1,o1,y,rfl,s1,g1,HY⟩:=ha.at1b R.old nr hlt
   have ht:t.ok:=by rw [HT.out]; exact ofTo_ok _ _ _
   obtain ⟨t0,t1,t2⟩:=ht
   have hy:okW y:=by rw [← HY.out]; exact HX.out k (by rw [HL.out]; exact hlt)
   have t0':=okP_W t0
   have f0:=R.box.frozen 0
   have hne:b1 ≠ w1.heap.size:=by have:=R.ge; omega
   clear ha
   go_wp2
   go_region_with ((go_at_call 205; refine (rplus_calls _ _ t0' hy _).mono ?_; rintro e w' ⟨rfl,rfl⟩))
   all_goals
    have R1:OfRel 231 w w1.heap.size ⟨addP t.x y,t.y,t.z⟩ (wr.setCell ⟨w1.heap.size,0,none⟩ (.int .u64 (addP t.x y))).drew:=(R.set0 _).drewN 1
    generalize hq:(wr.setCell ⟨w1.heap.size,0,none⟩ (.int .u64 (addP t.x y))).drew=wq at *
    clear hq c0 c1 c2 f0 g1 R
    obtain ⟨d0,d1,d2⟩:=ZaM R1.box
    go_wp2_with (go_at_call 204; refine (rmixed3 _ _ _ (ZbD _ _) t1 t2 _).mono ?_; rintro e w2 ⟨m2,HM2,rfl,hw2⟩; have R2:=R1.below hw2; obtain ⟨e0,e1,e2⟩:=ZaM R2.box; have z0:=R2.box.frozen 0; have z1:=R2.box.frozen 1; have z2:=R2.box.frozen 2)
    go_roundw
    case rel=>exact ⟨k+1,_,by omega,by go_num,by rw [HM2.out,HT.out,← HY.out]; rfl,R2.set _ _ _⟩
    case measure=>simp [intOf]; omega
  ·obtain rfl:k=len:=by omega
   go_wp2
   go_ret
   exact ⟨ZaV (by rw [HT.out]; unfold ofP; rw [HL.out]),R.old⟩
theorem rPair_calls (a b:Int) (ha:okW a) (hb:okW b) (w:World):Calls Tryz.prog 201 #[.int .u64 a,.int .u64 b] w fun e w'=>e=.returned (.int .u64 (ofP 3 [a,b]))/\Below w.heap.size w w':=by
 go_enter Tryz.func201,Tryz.ntmps201
 go_wp2_with (go_at_call 148; refine (Zcx _ ⟨by omega,by omega⟩ _ _ _ [a,b] _ (LstW.two _ _ _ _) (okL_two ha hb) (by omega)).mono ?_; rintro e w' ⟨rfl,hw⟩)
 go_ret
 exact ⟨rfl,(br.alloc nr _).trans (hw.mono (by simp))⟩
theorem rWord_calls (a b:Int) (ha:okW a) (hb:okW b) (w:World):Calls Tryz.prog 146 #[.int .u64 a,.int .u64 b] w fun e w'=>e=.returned (.int .u64 (ofP 2 [a,b]))/\Below w.heap.size w w':=by
 go_enter Tryz.func146,Tryz.ntmps146
 go_wp2_with (go_at_call 148; refine (Zcx _ ⟨by omega,by omega⟩ _ _ _ [a,b] _ (LstW.two _ _ _ _) (okL_two ha hb) (by omega)).mono ?_; rintro e w' ⟨rfl,hw⟩)
 go_ret
 exact ⟨rfl,(br.alloc nr _).trans (hw.mono (by simp))⟩
theorem bound_hi {x:Int} (h:4294967296 < x):boundP x=8589934592:=by unfold boundP; rw [if_neg (by omega),if_pos h]; rfl
theorem bound_lo {x:Int} (h:x < -4294967296):boundP x=0:=by unfold boundP; rw [if_pos h]; rfl
theorem bound_in {x:Int} (h:¬ 4294967296 < x) (h2:¬ x < -4294967296):boundP x=x+4294967296:=by unfold boundP; rw [if_neg h2,if_neg h]
theorem rNumbers_calls (a:Option Addr) (la ca:Nat) (xs:List Int) (w:World) (ha:Lst w a la ca xs) (hl:la<=200) :
  Calls Tryz.prog 226 #[.slice a la ca] w fun e w'=>∃ a' c',e=.returned (.slice a' la c')/\LstW w' a' la c' ((List.range la).map (numG xs))/\Below w.heap.size w w':=by
 go_enter Tryz.func226,Tryz.ntmps226
 go_wp2
 go_loopw [3,4] (fun v i wr=>∃ k:Nat,k<=la/\i=.int .i64 k/\OwnW w.heap.size wr v ((List.range k).map (numG xs))/\Below w.heap.size w wr) (fun _ i _=>la - (intOf i).toNat)
 case atStart=>exact ⟨0,Nat.zero_le _,rfl,OwnW.nil _ _,br⟩
 case round =>
  obtain ⟨k,hk,rfl,hown,hbel⟩:=hrel
  have hsz:=hbel.size
  by_cases hlt:k < la
  ·obtain ⟨b1,o1,x,rfl,s1,c1,HX⟩:=ha.at1b hbel nr hlt
   clear ha
   by_cases h1:4294967296 < x
   ·have HB:Hid (numG xs k=8589934592):=by unfold numG; rw [HX.out]; exact bound_hi h1
    go_wp2_with (at_builtin; refine Zak (by rfl) _ _ (by rfl) w.heap.size _ ((List.range k).map (numG xs)) 8589934592 wr.heap.size wr (by rfl) (by rfl) (by exact hown.alloc _) (by exact Zaf _ _ _) (by simp; omega) (by simp; omega) (by exact br.alloc (by omega) _) ?_; intro v1 w3 hown1 hbel1)
    go_roundw
    case rel=>exact ⟨k+1,by omega,by go_num,hown1.congr (Zbh _ _ _ HB.out),hbel.trans hbel1⟩
    case measure=>simp [intOf]; omega
   ·by_cases h2:x < -4294967296
    ·have HB:Hid (numG xs k=0):=by unfold numG; rw [HX.out]; exact bound_lo h2
     go_wp2_with (at_builtin; refine Zak (by rfl) _ _ (by rfl) w.heap.size _ ((List.range k).map (numG xs)) 0 wr.heap.size wr (by rfl) (by rfl) (by exact hown.alloc _) (by exact Zaf _ _ _) (by simp; omega) (by simp; omega) (by exact br.alloc (by omega) _) ?_; intro v1 w3 hown1 hbel1)
     go_roundw
     case rel=>exact ⟨k+1,by omega,by go_num,hown1.congr (Zbh _ _ _ HB.out),hbel.trans hbel1⟩
     case measure=>simp [intOf]; omega
    ·have HB:Hid (numG xs k=x+4294967296):=by unfold numG; rw [HX.out]; exact bound_in h1 h2
     go_wp2_with (at_builtin; refine Zak (by rfl) _ _ (by rfl) w.heap.size _ ((List.range k).map (numG xs)) (x+4294967296) wr.heap.size wr (by rfl) (by rfl) (by exact hown.alloc _) (by exact Zaf _ _ _) (by simp; omega) (by simp; omega) (by exact br.alloc (by omega) _) ?_; intro v1 w3 hown1 hbel1)
     go_roundw
     case rel=>exact ⟨k+1,by omega,by go_num,hown1.congr (Zbh _ _ _ HB.out),hbel.trans hbel1⟩
     case measure=>simp [intOf]; omega
  ·obtain rfl:k=la:=by omega
   obtain ⟨a1,c1,rfl,hl1⟩:=hown.lst' (n:=k) (by simp)
   go_wp2
   go_ret
   exact ⟨_,_,rfl,hl1,hbel⟩
theorem rcut_calls (n:Nat) (h1:2<=n) (h2:n<=50) (w:World):Calls Tryz.prog 225 #[.int .i64 n] w fun e w'=>e=.returned (.int .i64 (cutN n))/\w'=w:=by
 go_enter Tryz.func225,Tryz.ntmps225
 go_wp2
 go_loop [3] (fun v=>∃ j k:Nat,v=.int .i64 k/\Hid (k=2 ^ j)/\1<=k/\k < n) (fun v=>n - (intOf v).toNat)
 case atStart=>exact ⟨0,1,rfl,rfl,by omega,by omega⟩
 case round =>
  obtain ⟨j,k,rfl,HJ,k1,k2⟩:=hrel
  by_cases hlt:k+k < n
  ·go_wp2
   go_roundw
   case rel=>exact ⟨j+1,k+k,by go_num,by show k+k=2 ^ (j+1); rw [HJ.out,Nat.pow_succ]; omega,by omega,hlt⟩
   case measure=>simp [intOf]; omega
  ·go_wp2
   go_ret
   exact ⟨ZaV (by rw [HJ.out] at k2 hlt ⊢; rw [cutN_is k2 (by omega)]),rfl⟩
theorem rTree_calls:∀ (m:Nat) (a:Option Addr) (n c:Nat) (xs:List Int) (w:World),n<=m->1<=n->n<=50->LstW w a n c xs->okL xs ->
  Calls Tryz.prog 202 #[.slice a n c] w fun e w'=>e=.returned (.int .u64 (treeP xs))/\Below w.heap.size w w'
 | 0,a,n,c,xs,w,h,h1,h2,ha,hx=>by omega
 | m + 1, a, n, c, xs, w, h, h1, h2, ha, hx => by
   have IH:Hid (∀ (a:Option Addr) (n c:Nat) (xs:List Int) (w:World),n<=m->1<=n->n<=50->LstW w a n c xs->okL xs ->
    Calls Tryz.prog 202 #[.slice a n c] w fun e w'=>e=.returned (.int .u64 (treeP xs))/\Below w.heap.size w w'):=rTree_calls m
   have HL:=ha.len
   have HK:=ha.cap
   obtain ⟨b,off,x,rfl,hb,h0,HX⟩:=ha.at1 (k:=0) (by omega)
   rw [Nat.add_zero] at h0
   by_cases h3:n=1
   ·have n1:((n:Int) == 1)=true:=by rw [beq_iff_eq]; omega
    have HT:Hid (treeP xs=x):=by rw [treeP_one (by omega)]; exact HX.out
    clear ha h3
    go_enter Tryz.func202,Tryz.ntmps202
    go_wp2
    go_ret
    exact ⟨ZaV HT.out.symm,br⟩
   ·have hc:=cutN_lt (n:=n) (by omega)
    have HT:Hid (treeP xs=ofP 3 [treeP (xs.take (cutN n)),treeP (xs.drop (cutN n))]):=by rw [← HL]; exact treeP_two (by omega)
    have HC:Hid (∀ w,Calls Tryz.prog 225 #[.int .i64 n] w fun e w'=>e=.returned (.int .i64 (cutN n))/\w'=w):=rcut_calls n (by omega) (by omega)
    generalize cutN n=k at *
    have hA:=ha.head (by omega) (k:=k) (by omega)
    have hB:=ha.tail (by omega) (k:=k) (by omega)
    have oA:=okL_take hx k
    have oB:=okL_drop hx k
    have tA:Hid (okW (treeP (xs.take k))):=ZcI oA (by rw [hA.len]; omega)
    have tB:Hid (okW (treeP (xs.drop k))):=ZcI oB (by rw [hB.len]; omega)
    have n1:((n:Int) == 1)=false:=by rw [beq_eq_false_iff_ne]; omega
    have k4:¬ c=k:=by omega
    clear ha
    go_enter Tryz.func202,Tryz.ntmps202
    go_wp2_with (first | (go_at_call 225; refine (HC.out _).mono ?_; rintro e w' ⟨rfl,hw'⟩; replace hw':=hw'.symm; subst hw') | (go_at_call 202; refine (IH.out _ _ _ (xs.take k) _ (by omega) (by omega) (by omega) (by exact hA) oA).mono ?_; rintro e w1 ⟨rfl,hw1⟩) | (go_at_call 202; refine (IH.out _ _ _ (xs.drop k) _ (by omega) (by omega) (by omega) (by exact hB.below hw1 nr) oB).mono ?_; rintro e w2 ⟨rfl,hw2⟩) | (go_at_call 201; refine (rPair_calls _ _ tA.out tB.out _).mono ?_; rintro e w3 ⟨rfl,hw3⟩))
    go_ret
    have e2:=hw1.trans (hw2.mono hw1.size)
    exact ⟨ZaV HT.out.symm,e2.trans (hw3.mono e2.size)⟩
theorem numL_range {xs:List Int} {n:Nat} (h:n<=200):(List.range n).map (numG xs)=numL xs n:=by
 unfold numL; rw [if_neg (by omega)]
theorem rLeaves_calls (a:Option Addr) (n c:Nat) (xs:List Int) (w:World) (ha:Lst w a n c xs) (h1:1<=n) (h2:n<=200) :
  Calls Tryz.prog 203 #[.slice a n c] w fun e w'=>∃ a' c',e=.returned (.slice a' ((n+3) / 4:Nat) c')/\LstW w' a' ((n+3) / 4) c' (leavesP xs n)/\Below w.heap.size w w':=by
 unfold leavesP
 obtain ⟨N,hN⟩:∃ N,(n+3) / 4=N:=⟨_,rfl⟩
 rw [hN]
 obtain ⟨b,off,x,rfl,hb,h0,HX⟩:=ha.at1 (k:=0) (by omega)
 have HK:=ha.cap
 go_enter Tryz.func203,Tryz.ntmps203
 go_wp2
 go_loopw [3,4] (fun v i wr=>∃ k lo:Nat,k<=N/\i=.int .i64 lo/\k * 4=lo/\OwnW w.heap.size wr v ((List.range k).map (leafG xs n))/\Below w.heap.size w wr) (fun _ i _=>204 - (intOf i).toNat)
 case atStart=>exact ⟨0,0,Nat.zero_le _,rfl,rfl,OwnW.nil _ _,br⟩
 case round =>
  obtain ⟨k,lo,hk,rfl,hlo,hown,hbel⟩:=hrel
  have hsz:=hbel.size
  have ha':=ha.below hbel nr
  clear ha
  by_cases hlt:lo < n
  ·obtain ⟨hi,hhi⟩:∃ hi,hiN n k=hi:=⟨_,rfl⟩
   have hh:lo<=hi/\hi<=n/\hi<=lo+4:=by unfold hiN at hhi; omega
   have hs:=ha'.sub (by omega) lo hi (by omega) (by omega)
   have HG:Hid (leafG xs n k=ofP 4 (numL ((xs.drop lo).take (hi - lo)) (hi - lo))):=by show leafG xs n k=_; unfold leafG; rw [hlo,hhi]
   have HM:Hid (hi=min (lo+4) n):=by show hi=min (lo+4) n; rw [← hhi,← hlo]; rfl
   clear hhi
   go_wp2_with fail
   all_goals
    first
     | rw [show ((lo:Int)+4).toNat=hi from by have:=HM.out; omega]
     | rw [show n - lo=hi - lo from by have:=HM.out; omega]
    refine (rNumbers_calls _ _ _ _ _ hs (by omega)).mono ?_
    rintro e w1 ⟨a1,c1,rfl,hl1,hw1⟩
    rw [numL_range (by omega)] at hl1
    have hown1:=hown.below hw1
    have hbel1:=hbel.trans (hw1.mono hbel.size)
    go_wp2_with fail
    refine (Zcx 4 ⟨by omega,by omega⟩ _ _ _ _ _ hl1 (numL_ok _ _) (by omega)).mono ?_
    rintro e w2 ⟨rfl,hw2⟩
    have hown2:=hown1.below hw2
    have hbel2:=hbel1.trans (hw2.mono hbel1.size)
    have hsz2:=hbel2.size
    go_wp2_with (at_builtin; refine Zak (by rfl) _ _ (by rfl) w.heap.size _ ((List.range k).map (leafG xs n)) (ofP 4 (numL ((xs.drop lo).take (hi - lo)) (hi - lo))) w2.heap.size w (by rfl) (by rfl) (by exact hown2.alloc _) (by exact Zaf _ _ _) (by simp; omega) (by simp; omega) (by exact hbel2.alloc hsz2 _) ?_; intro v1 w3 hown3 hbel3)
    go_roundw
    case rel=>exact ⟨k+1,lo+4,by omega,by go_num,by omega,hown3.congr (Zbh _ _ _ HG.out),hbel3⟩
    case measure=>simp [intOf]; omega
  ·obtain rfl:k=N:=by omega
   obtain ⟨a1,c1,rfl,hl1⟩:=hown.lst' (n:=k) (by simp)
   go_wp2
   go_ret
   exact ⟨_,_,rfl,hl1,hbel⟩
theorem rRoot_calls (a:Option Addr) (n c:Nat) (xs:List Int) (w:World) (ha:Lst w a n c xs) (h1:1<=n) (h2:n<=200) :
  Calls Tryz.prog 147 #[.slice a n c] w fun e w'=>e=.returned (.int .u64 (ofP 3 [(n:Int),treeP (leavesP xs n)]))/\Below w.heap.size w w':=by
 have ht:=ZcI (ZcJ xs n) (by rw [leavesP_len]; omega)
 have hn:okW (n:Int):=⟨by omega,by omega⟩
 go_enter Tryz.func147,Tryz.ntmps147
 go_wp2_with (first | (go_at_call 203; refine (rLeaves_calls _ _ _ xs _ ha h1 h2).mono ?_; rintro e w1 ⟨a1,c1,rfl,hl1,hw1⟩) | (go_at_call 202; refine (rTree_calls 50 _ _ _ (leavesP xs n) _ (by omega) (by omega) (by omega) hl1 (ZcJ _ _)).mono ?_; rintro e w2 ⟨rfl,hw2⟩) | (go_at_call 201; refine (rPair_calls _ _ hn ht _).mono ?_; rintro e w3 ⟨rfl,hw3⟩))
 go_ret
 have e2:=hw1.trans (hw2.mono hw1.size)
 exact ⟨rfl,e2.trans (hw3.mono e2.size)⟩
structure Two (wm:World) (G:Nat) (x y:Value) (Lx Ly:List Int) (wr:World):Prop where
 row:wr.rowIs G 106 2 (fn2 x y)
 ox:OwnI wm.heap.size wr x Lx
 oy:OwnI wm.heap.size wr y Ly
 ap:Apart x y
 gr:wm.grownBy wr (some G)
theorem Two.below {wm:World} {G:Nat} {x y:Value} {Lx Ly:List Int} {wr w2:World} (h:Two wm G x y Lx Ly wr) (hb:Below wr.heap.size wr w2):Two wm G x y Lx Ly w2 :=
 ⟨h.row.of_block (hb.block _ h.row.lt),OwnI.below h.ox hb,OwnI.below h.oy hb,h.ap,grown_below h.gr hb⟩
theorem own_min {base:Nat} {w:World} {x:Value} {L:List Int} (h:OwnI base w x L):∀ k,x.ownBlock=some k->base<=k:=by
 intro k hk
 rcases h.blk with e | ⟨g,e,hg,_⟩
 ·rw [e] at hk; cases hk
 ·rw [e] at hk; cases hk; exact hg
theorem Two.still {wm:World} {G:Nat} {x y:Value} {Lx Ly:List Int} {w2 w3:World} (h:Two wm G x y Lx Ly w2) (hG:G < wm.heap.size) (h2:w2.grownBy w3 x.ownBlock):w3.rowIs G 106 2 (fn2 x y) :=
 h.row.of_block (h2.block G h.row.lt (fun e=>by have:=own_min h.ox G e.symm; omega))
theorem Two.still' {wm:World} {G:Nat} {x y:Value} {Lx Ly:List Int} {w2 w3:World} (h:Two wm G x y Lx Ly w2) (hG:G < wm.heap.size) (h2:w2.grownBy w3 y.ownBlock):w3.rowIs G 106 2 (fn2 x y) :=
 h.row.of_block (h2.block G h.row.lt (fun e=>by have:=own_min h.oy G e.symm; omega))
theorem apart_new {wm:World} {x y x1:Value} {Ly:List Int} {w2:World} (hap:Apart x y) (hoy:OwnI wm.heap.size w2 y Ly) (h3:x1.ownBlock=x.ownBlock\/x1.ownBlock=some w2.heap.size):Apart x1 y:=by
 rcases h3 with e | e
 ·unfold Apart; rw [e]; exact hap
 ·unfold Apart
  rw [e]
  rcases hoy.blk with e2 | ⟨g,e2,_,hg⟩
  ·exact .inl e2
  ·right; rw [e2]; simp; omega
theorem Two.push {wm:World} {G:Nat} {x y x1:Value} {Lx Ly:List Int} {z:Int} {w2 w3:World} (h:Two wm G x y Lx Ly w2) (hG:G < wm.heap.size) (h1:OwnI wm.heap.size w3 x1 (Lx ++ [z])) (h2:w2.grownBy w3 x.ownBlock) (h3:x1.ownBlock=x.ownBlock\/x1.ownBlock=some w2.heap.size) :
  Two wm G x1 y (Lx ++ [z]) Ly (w3.setCell ⟨G,0,none⟩ x1):=by
 refine ⟨((h.still hG h2).set 0 x1).congr (fun i hi=>?_),ownsRow_setCell_below h1 hG _,ownsRow_setCell_below (h.oy.kept h2 h.ap) hG _,apart_new h.ap h.oy h3,grown1 (grown_trans h.gr h2 (fun k hk=>.inl (own_min h.ox k hk))) 0 x1⟩
 rcases (show i=0\/i=1 from by omega) with rfl | rfl <;> rfl
theorem Two.push' {wm:World} {G:Nat} {x y y1:Value} {Lx Ly:List Int} {z:Int} {w2 w3:World} (h:Two wm G x y Lx Ly w2) (hG:G < wm.heap.size) (h1:OwnI wm.heap.size w3 y1 (Ly ++ [z])) (h2:w2.grownBy w3 y.ownBlock) (h3:y1.ownBlock=y.ownBlock\/y1.ownBlock=some w2.heap.size) :
  Two wm G x y1 Lx (Ly ++ [z]) (w3.setCell ⟨G,1,none⟩ y1):=by
 refine ⟨((h.still' hG h2).set 1 y1).congr (fun i hi=>?_),ownsRow_setCell_below (h.ox.kept h2 h.ap.symm) hG _,ownsRow_setCell_below h1 hG _,(apart_new h.ap.symm h.ox h3).symm,grown1 (grown_trans h.gr h2 (fun k hk=>.inl (own_min h.oy k hk))) 1 y1⟩
 rcases (show i=0\/i=1 from by omega) with rfl | rfl <;> rfl
theorem Two.congr {wm:World} {G:Nat} {x y:Value} {Lx Ly Lx' Ly':List Int} {wr:World} (h:Two wm G x y Lx Ly wr) (e1:Lx=Lx') (e2:Ly=Ly'):Two wm G x y Lx' Ly' wr:=by
 subst e1 e2
 exact h
theorem rsizeI_calls (i h o:Int) (w:World) (i1:1<=i) (i2:i<=4) (h1:1<=h) (h2:h<=4) (o1:1<=o) (o2:o<=4) :
  Calls Tryz.prog 145 #[.int .i64 i,.int .i64 h,.int .i64 o] w fun e w'=>e=.returned (.int .i64 (h * i+h+o * h+o))/\w'=w:=by
 have s1:h * (i+1)=h * i+h:=by rw [Int.mul_add,Int.mul_one]
 have s2:o * (h+1)=o * h+o:=by rw [Int.mul_add,Int.mul_one]
 have a1:=Int.mul_le_mul_of_nonneg_right (c:=i) h2 (by omega)
 have a2:=Int.mul_le_mul_of_nonneg_right (c:=i) h1 (by omega)
 have b1:=Int.mul_le_mul_of_nonneg_right (c:=h) o2 (by omega)
 have b2:=Int.mul_le_mul_of_nonneg_right (c:=h) o1 (by omega)
 have c1:0<=h * i:=by omega
 have c2:h * i<=16:=by omega
 have c3:0<=o * h:=by omega
 have c4:o * h<=16:=by omega
 clear a1 a2 b1 b2
 go_enter Tryz.func145,Tryz.ntmps145
 go_wp2
 go_ret
 exact ⟨Zad (by omega),rfl⟩
section
section
variable {w' W0:World} {ops:Array Oper} {o:Oper} {a:Act} {Q:Exit->Act->World->Prop}
theorem Zcy {K:Act->World->Prop} {E:Prop} (hgd:o.guard=none) (s x:Operand) (ho:o.op=.call { callee:=.builtin .append,args:=#[s,x],argTypes:=#[66,66] })
  (base:Nat) (v:Value) (xs zs:List Int) (b off m c:Nat) (W0:World) (hs:a.eval s=v) (hx:a.eval x=.slice (some ⟨b,off,none⟩) m c) (hown:OwnI base w' v xs) (hz:Lst w' (some ⟨b,off,none⟩) m c zs) (hn:(xs.length+m) * 8<=140737488355328) (hbase:base<=w'.heap.size) (hB:Below base W0 w')
  (h:∀ v' w1,OwnI base w1 v' (xs ++ zs)->Below base W0 w1->K (a.put o.dst v') w1) :
  if Region.wanted o (yielded ops a.tmps)=true then Oper.wp Tryz.prog o a w' K Q else E:=by
 obtain ⟨v',w1,hrun,h1,h2⟩:=ZbM o.type base v xs zs b off m c hown hz hn hbase hB
 have hw:Region.wanted o (yielded ops a.tmps)=true:=by simp [Region.wanted,hgd]
 rw [if_pos hw]
 unfold Oper.wp
 simp [execOp,ho,resolve,invoke,builtin,hs,hx,hrun,Result.andThen]
 exact h v' w1 h1 h2
end
theorem Zch (b1 o1 n1 k1:Nat) (ws:List Int) (b2 o2 n2 k2:Nat) (ms:List Int) (w:World) (l1:Lst w (some ⟨b1,o1,none⟩) n1 k1 ws) (l2:Lst w (some ⟨b2,o2,none⟩) n2 k2 ms) (h1:1<=n1) (h2:1<=n2) (h3:n1+n2<=200) :
  Calls Tryz.prog 149 #[.agg #[.slice (some ⟨b1,o1,none⟩) n1 k1,.slice (some ⟨b2,o2,none⟩) n2 k2]] w fun e w'=>e=.returned (.int .u64 (rootP ws ms (n1+n2)))/\Below w.heap.size w w':=by
 have hal:=Zac w (.cells #[.slice (some ⟨b1,o1,none⟩) n1 k1,.slice (some ⟨b2,o2,none⟩) n2 k2] 106)
 obtain ⟨W,HW⟩:∃ q,Hid (q=w.alloc (.cells #[.slice (some ⟨b1,o1,none⟩) n1 k1,.slice (some ⟨b2,o2,none⟩) n2 k2] 106)):=⟨_,rfl⟩
 have hW:Below w.heap.size w W:=by rw [HW.out]; exact hal
 have m1:=l1.below hW nr
 have m2:=l2.below hW nr
 have hrow:W.rowIs w.heap.size 106 2 (fn2 (.slice (some ⟨b1,o1,none⟩) n1 k1) (.slice (some ⟨b2,o2,none⟩) n2 k2)):=by rw [HW.out]; exact Zaj _ _ _ _
 have hWs:w.heap.size < W.heap.size:=hrow.lt
 have S0:W.drew.cell? ⟨w.heap.size,0,none⟩=some (.slice (some ⟨b1,o1,none⟩) n1 k1)/\W.drew.cell? ⟨w.heap.size,1,none⟩=some (.slice (some ⟨b2,o2,none⟩) n2 k2):=Zaa hrow
 have s0:=S0.1
 have s1:=S0.2
 have t0:W.cell? ⟨w.heap.size,0,none⟩=some (.slice (some ⟨b1,o1,none⟩) n1 k1):=(Zaa hrow).1
 have t1:W.cell? ⟨w.heap.size,1,none⟩=some (.slice (some ⟨b2,o2,none⟩) n2 k2):=(Zaa hrow).2
 have hl1:=l1.len
 have hl2:=l2.len
 have hBd:Below W.heap.size W W.drew:=Zab br 1
 have KS:Hid (∀ q,Below W.heap.size W q->q.cell? ⟨w.heap.size,0,none⟩=some (.slice (some ⟨b1,o1,none⟩) n1 k1)/\q.cell? ⟨w.heap.size,1,none⟩=some (.slice (some ⟨b2,o2,none⟩) n2 k2)):=fun q hq=>Zaa (hrow.of_block (hq.block _ hWs))
 unfold rootP
 clear l1 l2 hal
 go_enter Tryz.func149,Tryz.ntmps149
 go_wp2_with fail
 rw [← HW.out]
 clear HW
 go_region_held3 (fun q=>q.cell? ⟨w.heap.size,0,none⟩=some (.slice (some ⟨b1,o1,none⟩) n1 k1)/\q.cell? ⟨w.heap.size,1,none⟩=some (.slice (some ⟨b2,o2,none⟩) n2 k2)) (first | with_reducible exact S5 | with_reducible exact S4 | with_reducible exact S3 | with_reducible exact S0)
  (first | (refine Zcy (by rfl) _ _ (by rfl) W.heap.size _ [] ws b1 o1 n1 k1 W (by rfl) (by rfl) (by exact OwnI.nil _ _) (by exact m1.drew) (by simp; omega) (by simp) (by exact hBd) ?_; intro v3 w3 hown3 hbel3; have S3:=KS.out _ hbel3) | (refine Zcy (by rfl) _ _ (by rfl) W.heap.size _ ([] ++ ws) ms b2 o2 n2 k2 W (by rfl) (by rfl) (by exact hown3) (by exact m2.below hbel3 nr) (by simp; omega) (by exact hbel3.size) (by exact hbel3) ?_; intro v4 w4 hown4 hbel4; have S4:=KS.out _ hbel4; obtain ⟨va,vc,hv4,l4⟩:=hown4.lst' (n:=n1+n2) (by simp; omega); subst hv4) | (go_at_call 147; refine (rRoot_calls va (n1+n2) vc (ws ++ ms) _ (by simpa using l4) (by omega) h3).mono ?_; rintro e w5 ⟨rfl,hw5⟩; have S5:=KS.out _ (hbel4.trans (hw5.mono hbel4.size))))
 all_goals
  go_wp2
  go_ret
  exact ⟨rfl,hW.trans ((hbel4.trans (hw5.mono hbel4.size)).mono hW.size)⟩
end
theorem LawBox.grown {w:World} {c:Cfg} {v0 v1:Value} {wr q:World} {G:Nat} (h:LawBox w c v0 v1 wr) (hg:wr.grownBy q (some G)) (hG:w.heap.size+1 < G):LawBox w c v0 v1 q:=by
 have l2:=h.st.lt
 have k:∀ {i:Nat} {v:Value},wr.cell? ⟨w.heap.size,i,none⟩=some v->q.cell? ⟨w.heap.size,i,none⟩=some v:=fun hc=>hg.cell hc (by simp; omega)
 exact ⟨⟨k h.cfg.c0,k h.cfg.c1,k h.cfg.c2,k h.cfg.c3,k h.cfg.c4,k h.cfg.c5,k h.cfg.c6,k h.cfg.c7,k h.cfg.c8,k h.cfg.c9,k h.cfg.c10⟩,
  h.st.of_block (hg.block _ l2 (by simp; omega)),h.bel.grown hg h.bel.size (fun k hk=>by simp at hk; omega)⟩
theorem wrapW {x:Int} (h0:0<=x) (h1:x<=18446744073709551615):IntKind.u64.wrap x=x:=by
 rw [IntKind.wrap_u64]; omega
theorem Zcz (c:Cfg) (hc:cfgB c=true) (hs:okW c.seed) (N:Nat) (hN:(N:Int)=sizeN c) (w:World) :
  Calls Tryz.prog 103 #[c.val] w fun e w'=>∃ ga d1 gb d2,e=.returned (.agg #[.slice (some ⟨ga,0,none⟩) N d1,.slice (some ⟨gb,0,none⟩) N d2])/\w.heap.size<=ga/\w.heap.size<=gb/\Lst w' (some ⟨ga,0,none⟩) N d1 ((List.range N).map (startG c.seed))/\Lst w' (some ⟨gb,0,none⟩) N d2 ((List.range N).map zeroG)/\Below w.heap.size w w':=by
 have lb:=LawBox.start w c (.slice none 0 0) (.slice none 0 0)
 obtain ⟨wm,hwm⟩:∃ q,q=(((w.alloc (.cells c.cells 50)).alloc (.cells #[.slice none 0 0,.slice none 0 0] 106)).alloc (.cells #[.slice none 0 0,.slice none 0 0] 106)):=⟨_,rfl⟩
 have lbm:LawBox w c (.slice none 0 0) (.slice none 0 0) wm:=by rw [hwm]; exact lb.below (br.alloc nr _)
 have hrm:wm.rowIs (w.heap.size+1+1) 106 2 (fn2 (.slice none 0 0) (.slice none 0 0)):=by
  rw [hwm]
  have h:=Zaj ((w.alloc (.cells c.cells 50)).alloc (.cells #[.slice none 0 0,.slice none 0 0] 106)) (.slice none 0 0) (.slice none 0 0) 106
  simpa using h
 have hGlt:w.heap.size+1+1 < wm.heap.size:=hrm.lt
 have KQ:Hid (∀ q,wm.grownBy q (some (w.heap.size+1+1))->LawBox w c (.slice none 0 0) (.slice none 0 0) q):=fun q hq=>lbm.grown hq (by omega)
 have st0:Two wm (w.heap.size+1+1) (.slice none 0 0) (.slice none 0 0) [] [] wm:=⟨hrm,OwnI.nil _ _,OwnI.nil _ _,.inl rfl,World.grownBy.refl _ _⟩
 obtain ⟨⟨i1,i2⟩,⟨h1,h2⟩,⟨o1,o2⟩,_⟩:=Zal hc
 have RS:∀ q,Calls Tryz.prog 145 #[.int .i64 c.i,.int .i64 c.h,.int .i64 c.o] q fun e w'=>e=.returned (.int .i64 (N:Int))/\w'=q:=fun q=>by rw [hN]; exact rsizeI_calls c.i c.h c.o q i1 i2 h1 h2 o1 o2
 have HRS:Hid (∀ q,Calls Tryz.prog 145 #[.int .i64 c.i,.int .i64 c.h,.int .i64 c.o] q fun e w'=>e=.returned (.int .i64 (N:Int))/\w'=q):=RS
 have hNb:=ZaU hc
 have N4:4<=N:=by omega
 have N40:N<=40:=by omega
 have HW:Hid (wm=(((w.alloc (.cells c.cells 50)).alloc (.cells #[.slice none 0 0,.slice none 0 0] 106)).alloc (.cells #[.slice none 0 0,.slice none 0 0] 106))):=hwm
 clear hwm lb lbm hrm RS hNb hN hc i1 i2 h1 h2 o1 o2
 obtain ⟨i,h,o,seed,batch,steps,crate,decay,how,keep,clip⟩:=c
 simp only [Cfg.val,Cfg.cells] at *
 go_enter Tryz.func103,Tryz.ntmps103
 go_wp2_with fail
 rw [← HW.out]
 clear HW
 go_loopw [4] (fun v wr=>∃ k:Nat,k<=N/\v=.int .i64 k/\∃ ax cx ay cy,Two wm (w.heap.size+1+1) (.slice ax k cx) (.slice ay k cy) ((List.range k).map (startG seed)) ((List.range k).map zeroG) wr) (fun v _=>N - (intOf v).toNat)
 case atStart=>exact ⟨0,Nat.zero_le _,rfl,none,0,none,0,st0⟩
 case round =>
  obtain ⟨k,hk,rfl,ax,cx,ay,cy,htw⟩:=hrel
  clear st0
  have lb:=KQ.out _ htw.gr
  have ⟨⟨c0,c1,c2,c3,c4,c5,c6,c7,c8,c9,c10⟩,hr,hb⟩:=lb
  dsimp only at c0 c1 c2 c3 c4 c5 c6 c7 c8 c9 c10
  by_cases hlt:k < N
  ·obtain ⟨T,HT⟩:=nm (ofP 2 [seed,1000+(k:Int)])
   obtain ⟨r,hr0⟩:∃ r,T % 131073=r:=⟨_,rfl⟩
   have hT0:0<=T:=by rw [← HT.out]; exact (ZbO 2 _).1
   have r0:0<=r:=by rw [← hr0]; exact Int.emod_nonneg _ (by omega)
   have r1:r < 131073:=by rw [← hr0]; exact Int.emod_lt_of_pos _ (by omega)
   have HS:Hid (startG seed k=r - 65536):=by
    show startG seed k=_
    unfold startG
    rw [HT.out,hr0]
   have t1:T.tmod 131073=r:=by rw [tmod_pos hT0]; exact hr0
   have t2:IntKind.i64.wrap r=r:=ZaK _ (by omega) (by omega)
   have t3:IntKind.i64.wrap (r - 65536)=r - 65536:=ZaK _ (by omega) (by omega)
   have t4:IntKind.u64.wrap (k:Int)=(k:Int):=wrapW (by omega) (by omega)
   have t5:IntKind.u64.wrap (1000+(k:Int))=1000+(k:Int):=wrapW (by omega) (by omega)
   have t6:IntKind.u64.wrap r=r:=wrapW (by omega) (by omega)
   have hw2:okW (1000+(k:Int)):=⟨by omega,by omega⟩
   obtain ⟨g0,g1⟩:=Zaa htw.row
   have g0f:=htw.row.frozen 0
   clear hT0
   go_wp2_with (go_at_call 145; refine (HRS.out _).mono ?_; rintro e w' ⟨rfl,hw'⟩; replace hw':=hw'.symm; subst hw')
   go_region_law (first | (refine Zbn (by rfl) _ _ (by rfl) wm.heap.size _ ((List.range k).map (startG seed)) (r - 65536) wq.heap.size (by rfl) (by rfl) (by exact hg2.ox) (by exact Zaf _ _ _) (by simp; omega) (by simp; omega) ?_; intro v1 w2 hown1 hgr1 hat1; obtain ⟨av2,cv2,hv2,_⟩:=hown1.lst' (n:=k+1) (by simp); subst hv2; have hrow2:=hg2.still hGlt hgr1; have q0:=(Zaa hrow2).1; have q0f:=hrow2.frozen 0) | (go_simp; go_at_call 146; refine (rWord_calls _ _ hs hw2 _).mono ?_; rintro e wq ⟨rfl,hwq⟩; rw [HT.out]; have htq:=Two.below (show Two _ _ _ _ _ _ wr.drew from htw.below (Zab br 1)) hwq; have hszq:=htq.gr.size; obtain ⟨y0,y1⟩:=Zaa htq.row; have y0f:=htq.row.frozen 0; have hg2:=htq.below (Zac wq (.cells #[.int .i64 (r - 65536)] 3)); have d0:=(Zaa hg2.row).1))
   all_goals
    have htw3:=(hg2.push hGlt hown1 hgr1 hat1).congr (Zay (startG seed) k _ HS.out) rfl
    clear hown1 hgr1 hat1 hrow2 q0 q0f hg2 d0 y0 y1 y0f htq hszq hwq g0 g1 g0f htw c0 c1 c2 c3 c4 c5 c6 c7 c8 c9 c10 hr hb lb
    generalize w2.setCell ⟨w.heap.size+1+1,0,none⟩ (.slice av2 (k+1) cv2)=w3 at htw3 ⊢
    obtain ⟨y0,y1⟩:=Zaa htw3.row
    have y1f:=htw3.row.frozen 1
    have hsz3:=htw3.gr.size
    have hg3:=htw3.below (Zac w3 (.cells #[.int .i64 0] 3))
    go_wp2_with (at_builtin; refine ZaW (by rfl) _ _ (by rfl) wm.heap.size _ ((List.range k).map zeroG) 0 w3.heap.size (by rfl) (by rfl) (by exact hg3.oy) (by exact Zaf _ _ _) (by simp; omega) (by simp; omega) ?_; intro v3 w4 hown3 hgr3 hat3; obtain ⟨av4,cv4,hv4,_⟩:=hown3.lst' (n:=k+1) (by simp); subst hv4; have hrow4:=hg3.still' hGlt hgr3; have q1:=(Zaa hrow4).2; have q1f:=hrow4.frozen 1)
    go_roundw
    case rel=>exact ⟨k+1,by omega,by go_num,av2,cv2,av4,cv4,(hg3.push' hGlt hown3 hgr3 hat3).congr rfl (Zay zeroG k _ rfl)⟩
    case measure=>simp [intOf]; omega
  ·obtain rfl:k=N:=by omega
   obtain ⟨ga,rfl,hga,hla⟩:=htw.ox.at (by simp) (by omega)
   obtain ⟨gb,rfl,hgb,hlb⟩:=htw.oy.at (by simp) (by omega)
   obtain ⟨g0,g1⟩:=Zaa htw.row
   obtain ⟨r0,r1⟩:=Zaa hr
   have f0:=hr.frozen 0
   have f1:=hr.frozen 1
   go_wp2_with (go_at_call 145; refine (HRS.out _).mono ?_; rintro e w' ⟨rfl,hw'⟩; replace hw':=hw'.symm; subst hw')
   obtain ⟨q0,q1⟩:=Zaa (ZaB hr (.slice (some ⟨ga,0,none⟩) k cx) (.slice (some ⟨gb,0,none⟩) k cy))
   refine bodyPost_ret (v:=.agg #[.slice (some ⟨ga,0,none⟩) k cx,.slice (some ⟨gb,0,none⟩) k cy]) (by simp [results,Tryz.results103,go_sem,q0,q1]) rfl ⟨_,_,_,_,rfl,by omega,by omega,?_,?_,(hb.setCell (show w.heap.size<=w.heap.size+1 by omega) _).setCell (show w.heap.size<=w.heap.size+1 by omega) _⟩
   ·exact (hla.setFar (show ga ≠ w.heap.size+1 by omega) _).setFar (show ga ≠ w.heap.size+1 by omega) _
   ·exact (hlb.setFar (show gb ≠ w.heap.size+1 by omega) _).setFar (show gb ≠ w.heap.size+1 by omega) _
end Go.Proofs.YthmiojmlaclgaaaGreatDoor.Fx
