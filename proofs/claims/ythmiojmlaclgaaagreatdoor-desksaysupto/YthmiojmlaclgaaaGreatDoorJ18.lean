/- What the law stands on: TrnF. -/
import Derived.Test.YthmiojmlaclgaaaGreatDoorJ00
import Derived.Test.YthmiojmlaclgaaaGreatDoorJ11
set_option maxRecDepth 100000
set_option maxHeartbeats 12800000
namespace Go.Proofs.YthmiojmlaclgaaaGreatDoor.Fx
open Go.RowKit
theorem course_ok {c:Cfg} {n:Nat} {X:Nat->Exm} {DI DO:Nat->List Int} (h:courseI c n X DI DO=0):cfgB c=true/\1<=n/\n<=16/\allEx c n X DI DO=true:=by
 unfold courseI at h
 by_cases h1:cfgB c=true
 ·rw [if_pos h1] at h
  by_cases h2:n=0
  ·rw [if_pos h2] at h; cases h
  ·rw [if_neg h2] at h
   by_cases h3:16 < n
   ·rw [if_pos h3] at h; cases h
   ·rw [if_neg h3] at h
    by_cases h4:allEx c n X DI DO=true
    ·exact ⟨h1,by omega,by omega,h4⟩
    ·rw [if_neg h4] at h; cases h
 ·rw [if_neg h1] at h; cases h
def startL (c:Cfg):List Int:=if cfgB c=true then (List.range (sizeN c).toNat).map (startG c.seed) else []
def zeroL0 (c:Cfg):List Int:=if cfgB c=true then (List.range (sizeN c).toNat).map zeroG else []
theorem tStart_calls (c:Cfg) (hs:okW c.seed) (w:World) :
  Calls Tryz.prog 166 #[c.val] w fun e w'=>∃ b1 m1 d1 b2 m2 d2,e=.returned (.tuple #[.agg #[.slice b1 m1 d1,.slice b2 m2 d2],.int .i64 (cfgI c)])/\m1<=200/\m2<=200/\Lst w' b1 m1 d1 (startL c)/\Lst w' b2 m2 d2 (zeroL0 c)/\Below w.heap.size w w':=by
 have lb0:=LawBox.start w c (.slice none 0 0) (.slice none 0 0)
 have HC:Hid (∀ q,Calls Tryz.prog 55 #[c.val] q fun e w'=>e=.returned (.int .i64 (cfgI c))/\Below q.heap.size q w'):=fun q=>Zbb c q
 cases hc:cfgB c with
 | false =>
   unfold startL zeroL0
   rw [hc,if_neg (by decide),if_neg (by decide)]
   rw [cfgI_no hc] at HC ⊢
   clear hc hs
   obtain ⟨i,h,o,seed,batch,steps,crate,decay,how,keep,clip⟩:=c
   simp only [Cfg.val,Cfg.cells] at *
   go_enter Tryz.func166,Tryz.ntmps166
   go_wp2_with fail
   refine (HC.out _).mono ?_
   rintro e w1 ⟨rfl,hw1⟩
   have lb1:=lb0.below hw1
   clear hw1 lb0
   have ⟨_,hr1,hb1⟩:=lb1
   obtain ⟨r0,r1⟩:=Zaa hr1
   have f0:=hr1.frozen 0
   have f1:=hr1.frozen 1
   go_wp2_with fail
   obtain ⟨q0,q1⟩:=Zaa (ZaB hr1 (.slice none 0 0) (.slice none 0 0))
   exact bodyPost_ret (v:=.tuple #[.agg #[.slice none 0 0,.slice none 0 0],.int .i64 1]) (by simp [results,Tryz.results166,go_sem,q0,q1]) rfl ⟨none,0,0,none,0,0,rfl,by omega,by omega,Lst.nil _ _ _,Lst.nil _ _ _,(hb1.setCell (show w.heap.size<=w.heap.size+1 by omega) _).setCell (show w.heap.size<=w.heap.size+1 by omega) _⟩
 | true =>
   have hz:=ZaU hc
   obtain ⟨N,hN⟩:=Int.eq_ofNat_of_zero_le (show 0<=sizeN c by omega)
   have hNt:(sizeN c).toNat=N:=by rw [hN]; rfl
   have HS:Hid (∀ q,Calls Tryz.prog 90 #[c.val] q fun e w'=>∃ ga gb,e=.returned (.agg #[.slice (some ⟨ga,0,none⟩) N N,.slice (some ⟨gb,0,none⟩) N N])/\q.heap.size<=ga/\q.heap.size<=gb/\Lst w' (some ⟨ga,0,none⟩) N N (startL c)/\Lst w' (some ⟨gb,0,none⟩) N N (zeroL0 c)/\Below q.heap.size q w'):=fun q=>by
    unfold startL zeroL0
    rw [if_pos hc,if_pos hc,hNt]
    exact tstart_calls c hc hs N hN.symm q
   rw [ZcC hc] at HC ⊢
   generalize startL c=SL at *
   generalize zeroL0 c=ZL at *
   have hN200:N<=200:=by omega
   clear hc hs hz hN hNt
   obtain ⟨i,h,o,seed,batch,steps,crate,decay,how,keep,clip⟩:=c
   simp only [Cfg.val,Cfg.cells] at *
   go_enter Tryz.func166,Tryz.ntmps166
   go_wp2_with fail
   refine (HC.out _).mono ?_
   rintro e w1 ⟨rfl,hw1⟩
   have lb1:=lb0.below hw1
   clear hw1 lb0
   have ⟨⟨c0,c1,c2,c3,c4,c5,c6,c7,c8,c9,c10⟩,_,_⟩:=lb1
   dsimp only at c0 c1 c2 c3 c4 c5 c6 c7 c8 c9 c10
   go_wp2_with fail
   refine (HS.out _).mono ?_
   rintro e w2 ⟨ga,gb,rfl,hga,hgb,l1,l2,hw2⟩
   have lb2:=lb1.below hw2
   have hlt:=lb1.st.lt
   clear hw2 lb1 c0 c1 c2 c3 c4 c5 c6 c7 c8 c9 c10
   have ⟨_,hr1,hb1⟩:=lb2
   obtain ⟨r0,r1⟩:=Zaa hr1
   have f0:=hr1.frozen 0
   have f1:=hr1.frozen 1
   go_wp2_with fail
   obtain ⟨q0,q1⟩:=Zaa (ZaB hr1 (.slice (some ⟨ga,0,none⟩) N N) (.slice (some ⟨gb,0,none⟩) N N))
   exact bodyPost_ret (v:=.tuple #[.agg #[.slice (some ⟨ga,0,none⟩) N N,.slice (some ⟨gb,0,none⟩) N N],.int .i64 0]) (by simp [results,Tryz.results166,go_sem,q0,q1]) rfl ⟨some ⟨ga,0,none⟩,N,N,some ⟨gb,0,none⟩,N,N,rfl,hN200,hN200,(l1.setFar (show ga ≠ w.heap.size+1 by omega) _).setFar (show ga ≠ w.heap.size+1 by omega) _,(l2.setFar (show gb ≠ w.heap.size+1 by omega) _).setFar (show gb ≠ w.heap.size+1 by omega) _,(hb1.setCell (show w.heap.size<=w.heap.size+1 by omega) _).setCell (show w.heap.size<=w.heap.size+1 by omega) _⟩
end Go.Proofs.YthmiojmlaclgaaaGreatDoor.Fx
