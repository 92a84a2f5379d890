/- What the law stands on: OptD OptE JrnA LawBox TrnA. -/
import Derived.Test.YthmiojmlaclgaaaGreatDoorJ00
import Derived.Test.YthmiojmlaclgaaaGreatDoorJ07
import Derived.Test.YthmiojmlaclgaaaGreatDoorJ03
import Derived.Test.YthmiojmlaclgaaaGreatDoorJ05
import Derived.Test.YthmiojmlaclgaaaGreatDoorJ06
import Derived.Test.YthmiojmlaclgaaaGreatDoorJ04
set_option maxRecDepth 100000
set_option maxHeartbeats 12800000
namespace Go.Proofs.YthmiojmlaclgaaaGreatDoor.Fx
open Go.RowKit
theorem shp_fit {c:Cfg} (h:cfgB c=true) (len:Nat) (xs:List Int):shpI c.i c.h c.o len xs=if fitB c len xs=true then 0 else 5:=by
 obtain ⟨⟨i1,i2⟩,⟨h1,h2⟩,⟨o1,o2⟩,_⟩:=Zal h
 unfold shpI
 rw [if_pos ⟨ZaP i1 i2,ZaP h1 h2,ZaP o1 o2⟩]
 have e:(fitB c len xs=true)=((len:Int)=c.h * c.i+c.h+c.o * c.h+c.o/\rightB xs=true):=by
  unfold fitB sizeN
  rw [Bool.and_eq_true,decide_eq_true_eq]
 simp only [e]
theorem isPup_calls (c:Cfg) (hc:cfgB c=true) (a:Option Addr) (len cap:Nat) (xs:List Int) (w:World) (ha:Lst w a len cap xs) :
  Calls Tryz.prog 191 #[c.val,.slice a len cap] w fun e w'=>e=.returned (.bool (fitB c len xs))/\Below w.heap.size w w':=by
 have hal:=(Below.refl w.heap.size w).alloc nr (.cells c.cells 50)
 have ha':=ha.below hal nr
 have hs:=shp_fit hc len xs
 cases hf:fitB c len xs with
 | false =>
   rw [if_neg (by rw [hf]; decide)] at hs
   have K:=shape_bad c.i c.h c.o a len cap xs _ ha' (by rw [hs]; decide)
   rw [hs] at K
   have HK:Hid (Calls Tryz.prog 59 #[.int .i64 c.i,.int .i64 c.h,.int .i64 c.o,.slice a len cap] (w.alloc (.cells c.cells 50)) fun e w'=>e=.returned (.tuple #[noPup.val,.int .i64 5])/\Below (w.alloc (.cells c.cells 50)).heap.size (w.alloc (.cells c.cells 50)) w'):=K
   clear K hs hf hc ha ha'
   obtain ⟨i,h,o,seed,batch,steps,rate,decay,how,keep,clip⟩:=c
   simp only [Cfg.val,Cfg.cells,noPup,Pup.val,Pup.cells] at *
   go_enter Tryz.func191,Tryz.ntmps191
   go_wp2_with fail
   refine HK.out.mono ?_
   rintro e w1 ⟨rfl,hw1⟩
   have hb:=hal.trans (hw1.mono hal.size)
   clear hw1 hal HK
   have hz:=hb.size
   go_wp2
   go_ret
   exact ⟨rfl,hb.alloc hz _⟩
 | true =>
   obtain ⟨⟨i1,i2⟩,⟨h1,h2⟩,⟨o1,o2⟩,_⟩:=Zal hc
   have hfit:=fit_len hc hf
   unfold sizeN at hfit
   obtain ⟨i,h,o,seed,batch,steps,rate,decay,how,keep,clip⟩:=c
   dsimp only at i1 i2 h1 h2 o1 o2 hfit
   obtain ⟨I,rfl⟩:=Int.eq_ofNat_of_zero_le (show 0<=i by omega)
   obtain ⟨H,rfl⟩:=Int.eq_ofNat_of_zero_le (show 0<=h by omega)
   obtain ⟨O,rfl⟩:=Int.eq_ofNat_of_zero_le (show 0<=o by omega)
   have K:=shape_good I H O a len cap xs _ ha' (by omega) (by omega) (by omega) (by omega) (by omega) (by omega) (by have:=hfit.1; exact_mod_cast this) hfit.2.2.2
   have HK:Hid (Calls Tryz.prog 59 #[.int .i64 I,.int .i64 H,.int .i64 O,.slice a len cap] (w.alloc (.cells (Cfg.cells ⟨I,H,O,seed,batch,steps,rate,decay,how,keep,clip⟩) 50)) fun e w'=>∃ a1 a2 b1 b2,e=.returned (.tuple #[(rpup I H O a1 (H * I) a2 (O * H) b1 H b2 O).val,.int .i64 0])/\Below (w.alloc (.cells (Cfg.cells ⟨I,H,O,seed,batch,steps,rate,decay,how,keep,clip⟩) 50)).heap.size (w.alloc (.cells (Cfg.cells ⟨I,H,O,seed,batch,steps,rate,decay,how,keep,clip⟩) 50)) w'):=K.mono (by rintro e w' ⟨a1,a2,b1,b2,he,_,hb⟩; exact ⟨a1,a2,b1,b2,he,hb⟩)
   clear K hs hf hc ha ha' hfit i1 i2 h1 h2 o1 o2
   simp only [Cfg.val,Cfg.cells,rpup,Pup.val,Pup.cells] at *
   go_enter Tryz.func191,Tryz.ntmps191
   go_wp2_with fail
   refine HK.out.mono ?_
   rintro e w1 ⟨a1,a2,b1,b2,rfl,hw1⟩
   have hb:=hal.trans (hw1.mono hal.size)
   clear hw1 hal HK
   have hz:=hb.size
   go_wp2
   go_ret
   exact ⟨rfl,hb.alloc hz _⟩
theorem Zcr {xs:List Int} {n:Nat} (h:xs.length=n):(List.range n).map (fun i=>xs.getD i 0)=xs:=by
 refine List.ext_getElem (by simp [h]) (fun i a b=>?_)
 simp only [List.getElem_map,List.getElem_range]
 rw [List.getD_eq_getElem?_getD,List.getElem?_eq_getElem b]
 rfl
theorem OwnI.capM {base:Nat} {w:World} {a:Option Addr} {n c:Nat} {xs:List Int} (h:OwnI base w (.slice a n c) xs):c<=maxLen:=by
 rcases h.2 with ⟨e,_⟩ | ⟨g,cap,cur,e,_,_,_,hm,_⟩
 ·injection e with _ _ e3
  rw [e3]
  exact Nat.zero_le _
 ·injection e with _ _ e3
  rw [e3]
  exact hm
theorem cloneL_own (b off n c:Nat) (xs:List Int) (w:World) (h:Lst w (some ⟨b,off,none⟩) n c xs) (h1:1<=n) (h2:n<=1000) :
  Calls Tryz.prog 193 #[.slice (some ⟨b,off,none⟩) n c] w fun e w'=>∃ b' c',e=.returned (.slice (some ⟨b',0,none⟩) n c')/\w.heap.size<=b'/\Arr w' b' c' n (fun i=>xs.getD i 0)/\c'<=maxLen/\Below w.heap.size w w':=by
 have hb:=(Below.refl w.heap.size w).alloc nr (.cells #[] 3)
 have hl:=h.below hb nr
 have hn:=h.len
 have q22:∀ (w:World) (a:Option Addr) (n c n' c':Nat),(binOp .eql 66 (.slice a n c) (.slice none n' c')).run Tryz.prog w=.ok (.bool a.isNone) w:=fun w a n c n' c'=>Lib.run_eql_slice_nil w _ _ a n c n' c' Tryz.underlying66
 go_enter Tryz.func193,Tryz.ntmps193
 go_wp2_with (at_builtin; refine wpList_append_all (by rfl) _ _ (by rfl) w.heap.size _ [] xs b off n c w (by rfl) (by rfl) (by exact OwnI.empty w) (by exact hl) (by simp; omega) (by simp) (by exact hb) ?_; intro v1 w1 hown1 hbel1)
 have hown2:OwnI w.heap.size w1 v1 ((List.range n).map (fun i=>xs.getD i 0)):=by rw [Zcr hn]; simpa using hown1
 obtain ⟨b',c',rfl,hb',ha'⟩:=hown2.arr h1
 go_wp2
 go_ret
 exact ⟨_,_,rfl,hb',ha',hown2.capM,hbel1⟩
theorem Lst.setFar {w:World} {b off n c:Nat} {xs:List Int} (h:Lst w (some ⟨b,off,none⟩) n c xs) {a:Addr} (ha:b ≠ a.block) (v:Value):Lst (w.setCell a v) (some ⟨b,off,none⟩) n c xs:=by
 refine ⟨h.1,h.2.1,?_⟩
 rcases h.2.2 with h0 | ⟨b',off',e,hs,hc⟩
 ·exact .inl h0
 ·simp only [Option.some.injEq,Addr.mk.injEq,and_true] at e
  obtain ⟨rfl,rfl⟩:=e
  exact .inr ⟨b,off,rfl,by simpa using hs,fun i hi=>(World.cell?_of_block (w:=w) (a:=⟨b,off+i,none⟩) (Go.Deep.blk_setCell_other w a v b ha)).trans (hc i hi)⟩
def fn2 (v0 v1:Value) (i:Nat):Value:=if i=0 then v0 else v1
theorem ZaB {w:World} {b t:Nat} {f:Nat->Value} (h:w.rowIs b t 2 f) (v0 v1:Value):((w.setCell ⟨b,0,none⟩ v0).setCell ⟨b,1,none⟩ v1).rowIs b t 2 (fn2 v0 v1):=by
 refine ((h.set 0 v0).set 1 v1).congr (fun i hi=>?_)
 rcases (show i=0\/i=1 from by omega) with rfl | rfl <;> rfl
theorem Zaj (w:World) (v0 v1:Value) (t:TypeId):(w.alloc (.cells #[v0,v1] t)).rowIs w.heap.size t 2 (fn2 v0 v1) :=
 World.rowIs_alloc w #[v0,v1] t (fn2 v0 v1) (by
  intro i hi
  rcases (show i = 0 ∨ i = 1 from by have : i < 2 := hi
                                     omega) with rfl | rfl <;> rfl)
theorem Zaa {w:World} {b t:Nat} {v0 v1:Value} (h:w.rowIs b t 2 (fn2 v0 v1)):w.cell? ⟨b,0,none⟩=some v0/\w.cell? ⟨b,1,none⟩=some v1:=⟨h.cell (i:=0) (by omega),h.cell (i:=1) (by omega)⟩
structure StBox (w:World) (c:Cfg) (v0 v1:Value) (wr:World):Prop where
 cfg:BoxC wr w.heap.size c
 st:wr.rowIs (w.heap.size+1) 106 2 (fn2 v0 v1)
 res:wr.rowIs (w.heap.size+1+1) 106 2 (fn2 (.slice none 0 0) (.slice none 0 0))
 bel:Below w.heap.size w wr
theorem StBox.start (w:World) (c:Cfg) (v0 v1:Value):StBox w c v0 v1 (((w.alloc (.cells c.cells 50)).alloc (.cells #[v0,v1] 106)).alloc (.cells #[.slice none 0 0,.slice none 0 0] 106)):=by
 refine ⟨?_,?_,?_,(((Below.refl w.heap.size w).alloc nr _).alloc (by simp) _).alloc (by simp; omega) _⟩
 ·exact boxC (B:=w.heap.size+1) ((br.alloc (by simp) _).alloc (by simp) _) (by omega)
 ·have h:=(Zaj (w.alloc (.cells c.cells 50)) v0 v1 106).alloc (.cells #[.slice none 0 0,.slice none 0 0] 106)
  simpa using h
 ·have h:=Zaj ((w.alloc (.cells c.cells 50)).alloc (.cells #[v0,v1] 106)) (.slice none 0 0) (.slice none 0 0) 106
  simpa using h
theorem StBox.below {w:World} {c:Cfg} {v0 v1:Value} {wr w2:World} (h:StBox w c v0 v1 wr) (hb:Below wr.heap.size wr w2):StBox w c v0 v1 w2:=by
 have l2:=h.res.lt
 have k:∀ i,w2.cell? ⟨w.heap.size,i,none⟩=wr.cell? ⟨w.heap.size,i,none⟩:=fun i=>hb.cell (p:=⟨w.heap.size,i,none⟩) (by show w.heap.size < _; omega)
 exact ⟨⟨(k 0).trans h.cfg.c0,(k 1).trans h.cfg.c1,(k 2).trans h.cfg.c2,(k 3).trans h.cfg.c3,(k 4).trans h.cfg.c4,(k 5).trans h.cfg.c5,(k 6).trans h.cfg.c6,(k 7).trans h.cfg.c7,(k 8).trans h.cfg.c8,(k 9).trans h.cfg.c9,(k 10).trans h.cfg.c10⟩,
  h.st.of_block (hb.block _ (by omega)),h.res.of_block (hb.block _ l2),h.bel.trans (hb.mono h.bel.size)⟩
theorem StBox.drewN {w:World} {c:Cfg} {v0 v1:Value} {wr:World} (h:StBox w c v0 v1 wr) (n:Nat):StBox w c v0 v1 (wr.drewN n):=h.below (Zab br n)
theorem step_mom_own (c:Cfg) (a1:Option Addr) (n1 k1:Nat) (a2:Option Addr) (n2 k2:Nat) (a3:Option Addr) (n3 k3:Nat) (ws ms gs:List Int) (rate:Int) (w:World) (l1:Lst w a1 n1 k1 ws) (l2:Lst w a2 n2 k2 ms) (HC:Hid (∀ q,Calls Tryz.prog 55 #[c.val] q fun e w'=>e=.returned (.int .i64 0)/\Below q.heap.size q w')) (HP1:Hid (∀ q,Lst q a1 n1 k1 ws->Calls Tryz.prog 191 #[c.val,.slice a1 n1 k1] q fun e w'=>e=.returned (.bool true)/\Below q.heap.size q w')) (HP2:Hid (∀ q,Lst q a2 n2 k2 ms->Calls Tryz.prog 191 #[c.val,.slice a2 n2 k2] q fun e w'=>e=.returned (.bool true)/\Below q.heap.size q w')) (hlen:n3=n1) (HI:Hid (inB rate 0 2147483647=true)) (l3:Lst w a3 n3 k3 gs) (hn:n2=n1) (n40:n1<=40) (n4:4<=n1) (hhow:c.how=1) :
  Calls Tryz.prog 136 #[c.val,.agg #[.slice a1 n1 k1,.slice a2 n2 k2],.slice a3 n3 k3,.int .i64 rate] w fun e w'=>∃ g1 d1 g2 d2,e=.returned (.tuple #[.agg #[.slice (some ⟨g1,0,none⟩) n1 d1,.slice (some ⟨g2,0,none⟩) n1 d2],.int .i64 0])/\w.heap.size<=g1/\w.heap.size<=g2/\g1 ≠ g2/\(d1<=maxLen/\d2<=maxLen)/\Arr w' g1 d1 n1 (movedG ws ((List.range n1).map (momG c.keep ms gs)) rate)/\Arr w' g2 d2 n1 (momG c.keep ms gs)/\Below w.heap.size w w':=by
 have sb0:=StBox.start w c (.slice a1 n1 k1) (.slice a2 n2 k2)
 subst hlen
 subst hn
 obtain ⟨i,h,o,seed,batch,steps,crate,decay,how,keep,clip⟩:=c
 simp only [Cfg.val,Cfg.cells] at *
 have hw0:(how == 0)=false:=by rw [beq_eq_false_iff_ne]; omega
 clear hhow
 go_enter Tryz.func136,Tryz.ntmps136
 go_wp2_with fail
 refine (HC.out _).mono ?_
 rintro e w1 ⟨rfl,hw1⟩
 have sb1:=sb0.below hw1
 clear hw1 sb0
 have ⟨⟨c0,c1,c2,c3,c4,c5,c6,c7,c8,c9,c10⟩,hs1,hr1,hb1⟩:=sb1
 dsimp only at c0 c1 c2 c3 c4 c5 c6 c7 c8 c9 c10
 obtain ⟨s0,s1⟩:=Zaa hs1
 obtain ⟨r0,r1⟩:=Zaa hr1
 have f0:=hr1.frozen 0
 have f1:=hr1.frozen 1
 go_wp2_with fail
 refine (HP1.out _ (l1.below hb1 nr)).mono ?_
 rintro e w2 ⟨rfl,hw2⟩
 have sb2:=sb1.below hw2
 clear hw2 sb1 hs1 hr1 hb1
 clear c0 c1 c2 c3 c4 c5 c6 c7 c8 c9 c10 s0 s1 r0 r1 f0 f1
 have ⟨⟨c0,c1,c2,c3,c4,c5,c6,c7,c8,c9,c10⟩,hs2,hr2,hb2⟩:=sb2
 dsimp only at c0 c1 c2 c3 c4 c5 c6 c7 c8 c9 c10
 obtain ⟨s0,s1⟩:=Zaa hs2
 obtain ⟨r0,r1⟩:=Zaa hr2
 have f0:=hr2.frozen 0
 have f1:=hr2.frozen 1
 go_wp2_with fail
 refine (HP2.out _ (l2.below hb2 nr)).mono ?_
 rintro e w3 ⟨rfl,hw3⟩
 have sb3:=sb2.below hw3
 clear hw3 sb2 hs2 hr2 hb2
 clear c0 c1 c2 c3 c4 c5 c6 c7 c8 c9 c10 s0 s1 r0 r1 f0 f1
 have ⟨⟨c0,c1,c2,c3,c4,c5,c6,c7,c8,c9,c10⟩,hs3,hr3,hb3⟩:=sb3
 dsimp only at c0 c1 c2 c3 c4 c5 c6 c7 c8 c9 c10
 obtain ⟨s0,s1⟩:=Zaa hs3
 obtain ⟨r0,r1⟩:=Zaa hr3
 have f0:=hr3.frozen 0
 have f1:=hr3.frozen 1
 have hne:((n2:Int) != (n2:Int))=false:=by simp
 have m1:=l1.below hb3 nr
 have m2:=l2.below hb3 nr
 have m3:=l3.below hb3 nr
 clear l1 l2 l3
 go_wp2_with (go_at_call 89; refine (ZaI _ _ _ _).mono ?_; rintro e w' ⟨rfl,hw'⟩; replace hw':=hw'.symm; subst hw'; rw [HI.out])
 refine (momentum_own _ _ _ _ _ _ _ _ _ m2 m3 (by omega)).mono ?_
 rintro e w4 ⟨rfl,g2,hw4⟩
 have z5:w3.heap.size < w4.heap.size:=g2.lt
 have sb4:=sb3.below hw4
 have z3:=hr3.lt
 have z4:=hw4.size
 replace m1:=m1.below hw4 nr
 clear hw4 sb3 hs3 hr3 hb3 m2 m3
 clear c0 c1 c2 c3 c4 c5 c6 c7 c8 c9 c10 s0 s1 r0 r1 f0 f1
 have ⟨⟨c0,c1,c2,c3,c4,c5,c6,c7,c8,c9,c10⟩,hs4,hr4,hb4⟩:=sb4
 dsimp only at c0 c1 c2 c3 c4 c5 c6 c7 c8 c9 c10
 obtain ⟨s0,s1⟩:=Zaa hs4
 obtain ⟨r0,r1⟩:=Zaa hr4
 have f0:=hr4.frozen 0
 have f1:=hr4.frozen 1
 go_wp2_with fail
 refine (moved_own _ _ _ _ _ _ _ _ _ m1 g2.lst (by omega)).mono ?_
 rintro e w5 ⟨rfl,g1,hw5⟩
 have sb5:=sb4.below hw5
 replace g2:=g2.below hw5
 clear hw5 sb4 hs4 hr4 hb4 m1
 clear c0 c1 c2 c3 c4 c5 c6 c7 c8 c9 c10 s0 s1 r0 r1 f0 f1
 have ⟨⟨c0,c1,c2,c3,c4,c5,c6,c7,c8,c9,c10⟩,hs5,hr5,hb5⟩:=sb5
 dsimp only at c0 c1 c2 c3 c4 c5 c6 c7 c8 c9 c10
 obtain ⟨s0,s1⟩:=Zaa hs5
 obtain ⟨r0,r1⟩:=Zaa hr5
 have f0:=hr5.frozen 0
 have f1:=hr5.frozen 1
 go_wp2
 obtain ⟨q0,q1⟩:=Zaa (ZaB hr5 (.slice (some ⟨w4.heap.size,0,none⟩) n2 n2) (.slice (some ⟨w3.heap.size,0,none⟩) n2 n2))
 refine bodyPost_ret (v:=.tuple #[.agg #[.slice (some ⟨w4.heap.size,0,none⟩) n2 n2,.slice (some ⟨w3.heap.size,0,none⟩) n2 n2],.int .i64 0]) (by simp [results,Tryz.results136,go_sem,q0,q1]) rfl ⟨_,_,_,_,rfl,by omega,by omega,by omega,⟨by unfold maxLen; omega,by unfold maxLen; omega⟩,?_,?_,(hb5.setCell (show w.heap.size<=w.heap.size+1+1 by omega) _).setCell (show w.heap.size<=w.heap.size+1+1 by omega) _⟩
 ·exact (g1.setOther (show w4.heap.size ≠ w.heap.size+1+1 by omega) _).setOther (show w4.heap.size ≠ w.heap.size+1+1 by omega) _
 ·exact (g2.setOther (show w3.heap.size ≠ w.heap.size+1+1 by omega) _).setOther (show w3.heap.size ≠ w.heap.size+1+1 by omega) _
theorem step_plain_own (c:Cfg) (a1:Option Addr) (n1 k1:Nat) (a2:Option Addr) (n2 k2:Nat) (a3:Option Addr) (n3 k3:Nat) (ws ms gs:List Int) (rate:Int) (w:World) (l1:Lst w a1 n1 k1 ws) (l2:Lst w a2 n2 k2 ms) (HC:Hid (∀ q,Calls Tryz.prog 55 #[c.val] q fun e w'=>e=.returned (.int .i64 0)/\Below q.heap.size q w')) (HP1:Hid (∀ q,Lst q a1 n1 k1 ws->Calls Tryz.prog 191 #[c.val,.slice a1 n1 k1] q fun e w'=>e=.returned (.bool true)/\Below q.heap.size q w')) (HP2:Hid (∀ q,Lst q a2 n2 k2 ms->Calls Tryz.prog 191 #[c.val,.slice a2 n2 k2] q fun e w'=>e=.returned (.bool true)/\Below q.heap.size q w')) (hlen:n3=n1) (HI:Hid (inB rate 0 2147483647=true)) (l3:Lst w a3 n3 k3 gs) (hn:n2=n1) (n40:n1<=40) (n4:4<=n1) (hhow:c.how=0) :
  Calls Tryz.prog 136 #[c.val,.agg #[.slice a1 n1 k1,.slice a2 n2 k2],.slice a3 n3 k3,.int .i64 rate] w fun e w'=>∃ g1 d1 g2 d2,e=.returned (.tuple #[.agg #[.slice (some ⟨g1,0,none⟩) n1 d1,.slice (some ⟨g2,0,none⟩) n1 d2],.int .i64 0])/\w.heap.size<=g1/\w.heap.size<=g2/\g1 ≠ g2/\(d1<=maxLen/\d2<=maxLen)/\Arr w' g1 d1 n1 (movedG ws gs rate)/\Arr w' g2 d2 n1 (fun i=>ms.getD i 0)/\Below w.heap.size w w':=by
 have sb0:=StBox.start w c (.slice a1 n1 k1) (.slice a2 n2 k2)
 subst hlen
 subst hn
 obtain ⟨bb,oo,rfl,_,_⟩:=l2.at (by omega)
 obtain ⟨i,h,o,seed,batch,steps,crate,decay,how,keep,clip⟩:=c
 simp only [Cfg.val,Cfg.cells] at *
 have hw0:(how == 0)=true:=by simpa using hhow
 clear hhow
 go_enter Tryz.func136,Tryz.ntmps136
 go_wp2_with fail
 refine (HC.out _).mono ?_
 rintro e w1 ⟨rfl,hw1⟩
 have sb1:=sb0.below hw1
 clear hw1 sb0
 have ⟨⟨c0,c1,c2,c3,c4,c5,c6,c7,c8,c9,c10⟩,hs1,hr1,hb1⟩:=sb1
 dsimp only at c0 c1 c2 c3 c4 c5 c6 c7 c8 c9 c10
 obtain ⟨s0,s1⟩:=Zaa hs1
 obtain ⟨r0,r1⟩:=Zaa hr1
 have f0:=hr1.frozen 0
 have f1:=hr1.frozen 1
 go_wp2_with fail
 refine (HP1.out _ (l1.below hb1 nr)).mono ?_
 rintro e w2 ⟨rfl,hw2⟩
 have sb2:=sb1.below hw2
 clear hw2 sb1 hs1 hr1 hb1
 clear c0 c1 c2 c3 c4 c5 c6 c7 c8 c9 c10 s0 s1 r0 r1 f0 f1
 have ⟨⟨c0,c1,c2,c3,c4,c5,c6,c7,c8,c9,c10⟩,hs2,hr2,hb2⟩:=sb2
 dsimp only at c0 c1 c2 c3 c4 c5 c6 c7 c8 c9 c10
 obtain ⟨s0,s1⟩:=Zaa hs2
 obtain ⟨r0,r1⟩:=Zaa hr2
 have f0:=hr2.frozen 0
 have f1:=hr2.frozen 1
 go_wp2_with fail
 refine (HP2.out _ (l2.below hb2 nr)).mono ?_
 rintro e w3 ⟨rfl,hw3⟩
 have sb3:=sb2.below hw3
 clear hw3 sb2 hs2 hr2 hb2
 clear c0 c1 c2 c3 c4 c5 c6 c7 c8 c9 c10 s0 s1 r0 r1 f0 f1
 have ⟨⟨c0,c1,c2,c3,c4,c5,c6,c7,c8,c9,c10⟩,hs3,hr3,hb3⟩:=sb3
 dsimp only at c0 c1 c2 c3 c4 c5 c6 c7 c8 c9 c10
 obtain ⟨s0,s1⟩:=Zaa hs3
 obtain ⟨r0,r1⟩:=Zaa hr3
 have f0:=hr3.frozen 0
 have f1:=hr3.frozen 1
 have hne:((n2:Int) != (n2:Int))=false:=by simp
 have m1:=l1.below hb3 nr
 have m2:=l2.below hb3 nr
 have m3:=l3.below hb3 nr
 clear l1 l2 l3
 have z3:=hr3.lt
 have S3:w3.drew.cell? ⟨w.heap.size+1,0,none⟩=some (.slice a1 n2 k1)/\w3.drew.cell? ⟨w.heap.size+1,1,none⟩=some (.slice (some ⟨bb,oo,none⟩) n2 k2):=⟨s0,s1⟩
 go_wp2_with (go_at_call 89; refine (ZaI _ _ _ _).mono ?_; rintro e w' ⟨rfl,hw'⟩; replace hw':=hw'.symm; subst hw'; rw [HI.out])
 go_region_held3 (fun q=>q.cell? ⟨w.heap.size+1,0,none⟩=some (.slice a1 n2 k1)/\q.cell? ⟨w.heap.size+1,1,none⟩=some (.slice (some ⟨bb,oo,none⟩) n2 k2)) (first | with_reducible exact S6 | with_reducible exact S5 | with_reducible exact S4 | with_reducible exact S3)
  (first | (go_at_call 192; refine (moved_own _ _ _ _ _ _ _ _ _ m1.drew m3.drew (by omega)).mono ?_; rintro e w4 ⟨rfl,g1,hw4⟩; have z5:w3.heap.size < w4.heap.size:=g1.lt; have sb4:=StBox.below (show StBox _ _ _ _ w3.drew from sb3.drewN 1) hw4; have S4:=Zaa sb4.st; have m4:=m2.drew.below hw4 nr; have z4:w3.heap.size<=w4.heap.size:=hw4.size) | (go_at_call 193; refine (cloneL_own _ _ _ _ _ _ m4 (by omega) (by omega)).mono ?_; rintro e w5 ⟨b5,d5,rfl,hb5,g2,hcm,hw5⟩; have sb5:=sb4.below hw5; have S5:=Zaa sb5.st; have hr5:=sb5.res; obtain ⟨r0,r1⟩:=Zaa hr5; have f0:=hr5.frozen 0; have f1:=hr5.frozen 1; have S6:=Zaa ((sb5.st.setOther (show w.heap.size+1 ≠ (⟨w.heap.size+1+1,0,none⟩:Addr).block by simp) (.slice (some ⟨w3.heap.size,0,none⟩) n2 n2)).setOther (show w.heap.size+1 ≠ (⟨w.heap.size+1+1,1,none⟩:Addr).block by simp) (.slice (some ⟨b5,0,none⟩) n2 d5))))
 all_goals go_wp2_with fail
 obtain ⟨q0,q1⟩:=Zaa (ZaB hr5 (.slice (some ⟨w3.heap.size,0,none⟩) n2 n2) (.slice (some ⟨b5,0,none⟩) n2 d5))
 refine bodyPost_ret (v:=.tuple #[.agg #[.slice (some ⟨w3.heap.size,0,none⟩) n2 n2,.slice (some ⟨b5,0,none⟩) n2 d5],.int .i64 0]) (by simp [results,Tryz.results136,go_sem,q0,q1]) rfl ⟨_,_,_,_,rfl,by omega,by omega,by omega,⟨by unfold maxLen; omega,hcm⟩,?_,?_,(sb5.bel.setCell (show w.heap.size<=w.heap.size+1+1 by omega) _).setCell (show w.heap.size<=w.heap.size+1+1 by omega) _⟩
 ·have g1:Arr w5 w3.heap.size n2 n2 (movedG ws gs rate):=g1.below hw5
  exact (g1.setOther (show w3.heap.size ≠ w.heap.size+1+1 by omega) _).setOther (show w3.heap.size ≠ w.heap.size+1+1 by omega) _
 ·exact (g2.setOther (show b5 ≠ w.heap.size+1+1 by omega) _).setOther (show b5 ≠ w.heap.size+1+1 by omega) _
theorem getD_rng (g:Nat->Int) {n i:Nat} (h:i < n):((List.range n).map g).getD i 0=g i:=by simp [h]
theorem step_own (c:Cfg) (hc:cfgB c=true) (a1:Option Addr) (n k1:Nat) (a2:Option Addr) (k2:Nat) (a3:Option Addr) (k3:Nat) (ws ms gs:List Int) (rate:Int) (w:World) (l1:Lst w a1 n k1 ws) (l2:Lst w a2 n k2 ms) (l3:Lst w a3 n k3 gs) (f1:fitB c n ws=true) (f2:fitB c n ms=true) (hr:inB rate 0 2147483647=true) :
  Calls Tryz.prog 136 #[c.val,.agg #[.slice a1 n k1,.slice a2 n k2],.slice a3 n k3,.int .i64 rate] w fun e w'=>∃ g1 d1 g2 d2,e=.returned (.tuple #[.agg #[.slice (some ⟨g1,0,none⟩) n d1,.slice (some ⟨g2,0,none⟩) n d2],.int .i64 0])/\w.heap.size<=g1/\w.heap.size<=g2/\g1 ≠ g2/\(d1<=maxLen/\d2<=maxLen)/\Arr w' g1 d1 n (goneG c ws ms gs rate)/\Arr w' g2 d2 n (keptG c ms gs)/\Below w.heap.size w w':=by
 have HC:∀ q,Calls Tryz.prog 55 #[c.val] q fun e w'=>e=.returned (.int .i64 0)/\Below q.heap.size q w':=fun q=>by have:=Zbb c q; rw [ZcC hc] at this; exact this
 have P1:∀ q,Lst q a1 n k1 ws->Calls Tryz.prog 191 #[c.val,.slice a1 n k1] q fun e w'=>e=.returned (.bool true)/\Below q.heap.size q w':=fun q hq=>by have:=isPup_calls c hc a1 n k1 ws q hq; rw [f1] at this; exact this
 have P2:∀ q,Lst q a2 n k2 ms->Calls Tryz.prog 191 #[c.val,.slice a2 n k2] q fun e w'=>e=.returned (.bool true)/\Below q.heap.size q w':=fun q hq=>by have:=isPup_calls c hc a2 n k2 ms q hq; rw [f2] at this; exact this
 have g1:=fit_len hc f1
 obtain ⟨_,_,_,_,_,_,_,⟨w1,w2⟩,_⟩:=Zal hc
 by_cases hw:c.how=0
 ·refine (step_plain_own c a1 n k1 a2 n k2 a3 n k3 ws ms gs rate w l1 l2 HC P1 P2 rfl hr l3 rfl g1.2.1 g1.2.2.1 hw).mono ?_
  rintro e w' ⟨x1,d1,x2,d2,he,q1,q2,q3,q4,h1,h2,hb⟩
  refine ⟨x1,d1,x2,d2,he,q1,q2,q3,q4,h1.congr (fun i _=>?_),h2.congr (fun i _=>?_),hb⟩
  ·unfold movedG goneG moveG
   rw [if_neg (by omega),mulI_clamp']
  ·unfold keptG
   rw [if_neg (by omega)]
 ·have hw1:c.how=1:=by omega
  refine (step_mom_own c a1 n k1 a2 n k2 a3 n k3 ws ms gs rate w l1 l2 HC P1 P2 rfl hr l3 rfl g1.2.1 g1.2.2.1 hw1).mono ?_
  rintro e w' ⟨x1,d1,x2,d2,he,q1,q2,q3,q4,h1,h2,hb⟩
  refine ⟨x1,d1,x2,d2,he,q1,q2,q3,q4,h1.congr (fun i hi=>?_),h2.congr (fun i _=>?_),hb⟩
  ·unfold movedG goneG moveG
   rw [getD_rng _ hi,if_pos hw1]
   rfl
  ·unfold momG keptG moveG
   rw [if_pos hw1,if_pos hw1]
theorem rootE_err (n1 n2:Nat):rootE n1 n2=errL (n1+n2):=rfl
theorem rootV_is (n1:Nat) (ws:List Int) (n2:Nat) (ms:List Int):rootV n1 ws n2 ms=rootL (ws ++ ms) (n1+n2):=by
 unfold rootV rootL rootE
 by_cases h0:n1+n2=0
 ·rw [if_pos h0,if_neg (by decide),if_pos (.inl h0)]
 ·rw [if_neg h0]
  by_cases h2:200 < n1+n2
  ·rw [if_pos h2,if_neg (by decide),if_pos (.inr h2)]
  ·rw [if_neg h2,if_pos rfl,if_neg (by omega)]
   rfl
theorem rob_calls (a1:Option Addr) (n1 k1:Nat) (ws:List Int) (a2:Option Addr) (n2 k2:Nat) (ms:List Int) (w:World) (l1:Lst w a1 n1 k1 ws) (l2:Lst w a2 n2 k2 ms) (hz:n1+n2<=4611686018427387904) :
  Calls Tryz.prog 209 #[.slice a1 n1 k1,.slice a2 n2 k2] w fun e w'=>e=.returned (.tuple #[.int .u64 (rootV n1 ws n2 ms),.int .i64 (rootE n1 n2)])/\Below w.heap.size w w':=by
 rw [rootV_is,rootE_err]
 by_cases h:200 < n1+n2
 ·have HE:Hid (errL (n1+n2)=2):=by show errL (n1+n2)=2; unfold errL; rw [if_neg (by omega),if_pos h]
  have HV:Hid (rootL (ws ++ ms) (n1+n2)=0):=if_pos (.inr h)
  have h1:(n1:Int)+(n2:Int) > 200:=by omega
  clear l1 l2
  go_enter Tryz.func209,Tryz.ntmps209
  go_wp2
  go_ret2
  exact ⟨by rw [HE.out,HV.out]; rfl,br⟩
 ·have h1:¬ (n1:Int)+(n2:Int) > 200:=by omega
  go_enter Tryz.func209,Tryz.ntmps209
  go_wp2_with fail
  refine (concat2 a1 a2 n1 n2 k1 k2 ws ms _ _ rfl l1 l2 (by omega)).mono ?_
  rintro e w1 ⟨a,c,rfl,hl,hw1⟩
  go_wp2_with fail
  refine (Root_calls a _ c _ _ hl).mono ?_
  rintro e w2 ⟨rfl,hw2⟩
  go_wp2_with fail
  go_ret2
  exact ⟨rfl,hw1.trans (hw2.mono hw1.size)⟩
theorem jroot_calls (a1:Option Addr) (n1 k1:Nat) (ws:List Int) (a2:Option Addr) (n2 k2:Nat) (ms:List Int) (w:World) (l1:Lst w a1 n1 k1 ws) (l2:Lst w a2 n2 k2 ms) (hz:n1+n2<=4611686018427387904) :
  Calls Tryz.prog 168 #[.agg #[.slice a1 n1 k1,.slice a2 n2 k2]] w fun e w'=>e=.returned (.tuple #[.int .u64 (rootV n1 ws n2 ms),.int .i64 (rootE n1 n2)])/\Below w.heap.size w w':=by
 have hal:=Zac w (.cells #[.slice a1 n1 k1,.slice a2 n2 k2] 106)
 have row:=Zaj w (.slice a1 n1 k1) (.slice a2 n2 k2) 106
 obtain ⟨c0,c1⟩:=Zaa row
 have HR:=rob_calls a1 n1 k1 ws a2 n2 k2 ms _ (l1.below hal nr) (l2.below hal nr) hz
 generalize rootV n1 ws n2 ms=V at *
 generalize rootE n1 n2=E at *
 clear l1 l2 row
 go_enter Tryz.func168,Tryz.ntmps168
 go_wp2_with fail
 refine HR.mono ?_
 rintro e w1 ⟨rfl,hw1⟩
 go_wp2_with fail
 go_ret2
 exact ⟨rfl,hal.trans (hw1.mono hal.size)⟩
structure LawBox (w:World) (c:Cfg) (v0 v1:Value) (q:World):Prop where
 cfg:BoxC q w.heap.size c
 st:q.rowIs (w.heap.size+1) 106 2 (fn2 v0 v1)
 bel:Below w.heap.size w q
theorem LawBox.start (w:World) (c:Cfg) (v0 v1:Value):LawBox w c v0 v1 ((w.alloc (.cells c.cells 50)).alloc (.cells #[v0,v1] 106)):=by
 refine ⟨boxC (B:=w.heap.size+1) (br.alloc (by simp) _) (by omega),?_,((Below.refl w.heap.size w).alloc nr _).alloc (by simp) _⟩
 have h:=Zaj (w.alloc (.cells c.cells 50)) v0 v1 106
 simpa using h
theorem LawBox.below {w:World} {c:Cfg} {v0 v1:Value} {q q2:World} (h:LawBox w c v0 v1 q) (hb:Below q.heap.size q q2):LawBox w c v0 v1 q2:=by
 have l2:=h.st.lt
 have k:∀ i,q2.cell? ⟨w.heap.size,i,none⟩=q.cell? ⟨w.heap.size,i,none⟩:=fun i=>hb.cell (p:=⟨w.heap.size,i,none⟩) (by show w.heap.size < _; omega)
 exact ⟨⟨(k 0).trans h.cfg.c0,(k 1).trans h.cfg.c1,(k 2).trans h.cfg.c2,(k 3).trans h.cfg.c3,(k 4).trans h.cfg.c4,(k 5).trans h.cfg.c5,(k 6).trans h.cfg.c6,(k 7).trans h.cfg.c7,(k 8).trans h.cfg.c8,(k 9).trans h.cfg.c9,(k 10).trans h.cfg.c10⟩,
  h.st.of_block (hb.block _ l2),h.bel.trans (hb.mono h.bel.size)⟩
theorem ZbH (a:Option Addr) (la ca:Nat) (xs:List Int) (n:Int) (w:World) (ha:Lst w a la ca xs) (hn:n<=1000) :
  Calls Tryz.prog 124 #[.slice a la ca,.int .i64 n] w fun e w'=>e=.returned (.bool (decide ((la:Int)=n) && rightB xs))/\w'=w:=by
 by_cases hl:(la:Int)=n
 ·have hne:((la:Int) != n)=false:=by rw [bne_eq_false_iff_eq]; exact hl
  have h1000:la<=1000:=by omega
  rw [decide_eq_true hl,Bool.true_and]
  clear hl
  go_enter Tryz.func124,Tryz.ntmps124
  go_wp2
  go_loopw [13] (fun i wr=>∃ k:Nat,k<=la/\i=.int .i64 k/\Hid (∀ j,j < k->xs.getD j 0=clampI (xs.getD j 0))/\wr=w) (fun i _=>la - (intOf i).toNat)
  case atStart=>exact ⟨0,Nat.zero_le _,rfl,fun j hj=>by omega,rfl⟩
  case round =>
   obtain ⟨k,hk,rfl,hg,hw⟩:=hrel
   replace hw:=hw.symm
   subst hw
   by_cases hlt:k < la
   ·obtain ⟨b1,o1,x,rfl,s1,c1,HX⟩:=ha.at1 hlt
    by_cases hx:x=clampI x
    ·have hx':(x != clampI x)=false:=by rw [bne_eq_false_iff_eq]; exact hx
     have HC:Hid (x=clampI x):=hx
     clear hx
     go_wp2_with (go_at_call 137; refine (ZaR _ _).mono ?_; rintro e w' ⟨rfl,hw'⟩; replace hw':=hw'.symm; subst hw')
     go_roundw
     case rel=>exact ⟨k+1,by omega,by go_num,fun j hj=>by
      by_cases e:j=k
      ·subst e; rw [HX.out]; exact HC.out
      ·exact hg.out j (by omega),by trivial⟩
     case measure=>simp [intOf]; omega
    ·have hx':(x != clampI x)=true:=by rw [bne_iff_ne]; exact hx
     go_wp2_with (go_at_call 137; refine (ZaR _ _).mono ?_; rintro e w' ⟨rfl,hw'⟩; replace hw':=hw'.symm; subst hw')
     go_ret
     exact ⟨Zai (Zck (k:=k) (by rw [HX.out]; exact hx)).symm,rfl⟩
   ·go_wp2
    go_ret
    exact ⟨Zai (ZbC (fun j hj=>hg.out j (by have:=ha.len; omega))).symm,rfl⟩
 ·have hne:((la:Int) != n)=true:=by rw [bne_iff_ne]; exact hl
  rw [decide_eq_false hl,Bool.false_and]
  clear hl
  go_enter Tryz.func124,Tryz.ntmps124
  go_wp2
  go_ret
  exact ⟨rfl,rfl⟩
theorem tcount_calls (c:Cfg) (hc:cfgB c=true) (w:World) :
  Calls Tryz.prog 130 #[c.val] w fun e w'=>e=.returned (.int .i64 (sizeN c))/\w'=w.alloc (.cells c.cells 50):=by
 obtain ⟨⟨i1,i2⟩,⟨h1,h2⟩,⟨o1,o2⟩,_⟩:=Zal hc
 clear hc
 obtain ⟨i,h,o,seed,batch,steps,rate,decay,how,keep,clip⟩:=c
 unfold sizeN
 dsimp only at i1 i2 h1 h2 o1 o2 ⊢
 have s1:h * (i+1)=h * i+h:=by rw [Int.mul_add,Int.mul_one]
 have s2:o * (h+1)=o * h+o:=by rw [Int.mul_add,Int.mul_one]
 have a1:=Int.mul_le_mul_of_nonneg_right (c:=i) h2 (by omega)
 have a2:=Int.mul_le_mul_of_nonneg_right (c:=i) h1 (by omega)
 have b1:=Int.mul_le_mul_of_nonneg_right (c:=h) o2 (by omega)
 have b2:=Int.mul_le_mul_of_nonneg_right (c:=h) o1 (by omega)
 have c1:0<=h * i:=by omega
 have c2:h * i<=16:=by omega
 have c3:0<=o * h:=by omega
 have c4:o * h<=16:=by omega
 clear a1 a2 b1 b2
 simp only [Cfg.val,Cfg.cells] at *
 go_enter Tryz.func130,Tryz.ntmps130
 go_wp2
 go_ret
 exact ⟨Zad (by omega),rfl⟩
theorem tfirst_calls (seed:Int) (hs:okW seed) (k:Nat) (hk:k<=100) (w:World) :
  Calls Tryz.prog 131 #[.int .u64 seed,.int .i64 k] w fun e w'=>e=.returned (.int .i64 (startG seed k))/\Below w.heap.size w w':=by
 obtain ⟨T,HT⟩:=nm (ofP 2 [seed,1000+(k:Int)])
 have hT0:0<=T:=by rw [← HT.out]; exact (ZbO 2 _).1
 have HS:Hid (startG seed k=T % 131073 - 65536):=by
  show startG seed k=_
  unfold startG
  rw [HT.out]
 have r0:0<=T % 131073:=Int.emod_nonneg _ (by omega)
 have r1:T % 131073 < 131073:=Int.emod_lt_of_pos _ (by omega)
 have hw2:okW (1000+(k:Int)):=⟨by omega,by omega⟩
 go_enter Tryz.func131,Tryz.ntmps131
 go_wp2_with (go_at_call 180; refine (dWord_calls _ _ hs hw2 _).mono ?_; rintro e w1 ⟨rfl,hw1⟩; rw [HT.out])
 go_ret
 exact ⟨Zad (by rw [HS.out]),hw1⟩
theorem vSum_at (a b:Option Addr) (la ca cb:Nat) (xs ys:List Int) (w:World) (ha:Lst w a la ca xs) (hb:Lst w b la cb ys) (hl:la<=200) :
  Calls Tryz.prog 189 #[.slice a la ca,.slice b la cb] w fun e w'=>∃ g,e=.returned (.tuple #[.slice (some ⟨g,0,none⟩) la la,.int .i64 0])/\w.heap.size<=g/\w'.rowIs g 3 la (rowTo (sumG xs ys) la)/\Below w.heap.size w w':=by
 have H0:Hid (twoI la la=0):=by
  rcases twoI_cases la la with ⟨h0,_,_⟩ | ⟨h0,h1⟩
  ·exact h0
  ·exfalso; apply h0; unfold twoI; rw [if_neg (by omega),if_pos rfl]
 have hmk:=run_make_row' (P:=Tryz.prog) 66 3 (.int .i64 0) 8 Tryz.underlying66 info3 rfl .i64 .i64 la (by omega) (by omega)
 go_enter Tryz.func189,Tryz.ntmps189
 go_wp2_with (go_at_call 141; refine (two_calls _ _ _ _ _ _ _).mono ?_; rintro e w1 ⟨rfl,hw⟩; rw [H0.out])
 go_loopw [20] (fun i wr=>∃ k:Nat,k<=la/\i=.int .i64 k/\wr.rowIs w1.heap.size 3 la (rowTo (sumG xs ys) k)/\Below w.heap.size w wr) (fun i _=>la - (intOf i).toNat)
 case atStart=>exact ⟨0,Nat.zero_le _,rfl,ZaG (World.rowIs_made _ _ _ _),hw.alloc hw.size _⟩
 case round =>
  obtain ⟨k,hk,rfl,hrow,hbel⟩:=hrel
  have ha':=ha.below hbel nr
  have hb':=hb.below hbel nr
  have hsz:=hw.size
  clear ha hb hw hmk
  by_cases hlt:k < la
  ·obtain ⟨b1,o1,x,rfl,_,c1,HX⟩:=ha'.at1 hlt
   obtain ⟨b2,o2,y,rfl,_,c2,HY⟩:=hb'.at1 hlt
   have c3:=Zax hrow hlt
   have f3:=hrow.frozen k
   go_wp2
   go_region_with ((go_at_call 200; refine (add_calls _ _ _).mono ?_; rintro e w' ⟨rfl,rfl⟩))
   all_goals go_wp2
   all_goals
    go_roundw
    case rel =>
     have st:=Zaw (g:=sumG xs ys) hrow
     simp only [sumG,HX.out,HY.out] at st
     exact ⟨k+1,by omega,by go_num,st,(hbel.setCell (by omega) _).drew⟩
    case measure=>simp [intOf]; omega
  ·go_wp2
   go_ret2
   obtain rfl:k=la:=by omega
   exact ⟨_,rfl,hsz,hrow,hbel⟩
theorem Lst.setOff {w:World} {a:Option Addr} {n c:Nat} {xs:List Int} (h:Lst w a n c xs) {p:Addr} {x:Option Addr} {y z:Nat} (hp:w.cell? p=some (.slice x y z)) (v:Value):Lst (w.setCell p v) a n c xs:=by
 refine ⟨h.1,h.2.1,?_⟩
 rcases h.2.2 with h0 | ⟨b,off,e,hs,hc⟩
 ·exact .inl h0
 ·refine .inr ⟨b,off,e,by simpa using hs,fun i hi=>?_⟩
  have hne:p ≠ ⟨b,off+i,none⟩:=fun g=>by
   have h1:=hc i hi
   rw [← g,hp] at h1
   simp at h1
  rw [World.cell?_setCell_other w _ _ _ hne]
  exact hc i hi
end Go.Proofs.YthmiojmlaclgaaaGreatDoor.Fx
