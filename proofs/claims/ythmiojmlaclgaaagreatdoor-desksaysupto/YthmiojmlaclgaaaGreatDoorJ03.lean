/- What the law stands on: PupD. -/
import Derived.Test.YthmiojmlaclgaaaGreatDoorJ00
import Derived.Test.YthmiojmlaclgaaaGreatDoorJ02
import Derived.Test.YthmiojmlaclgaaaGreatDoorJ01
import Derived.Laws.CopyOwn
set_option maxRecDepth 100000
set_option maxHeartbeats 12800000
namespace Go.Proofs.YthmiojmlaclgaaaGreatDoor.Fx
open Go.RowKit
theorem row_of_heap {w:World} {g t n:Nat} {xs:List Int} (hl:xs.length=n) (h:w.heap[g]?=some (.cells (xs.map (Value.int .i64)).toArray t (0,0))):w.rowIs g t n (rowTo (fun i=>xs.getD i 0) n) :=
 ⟨_, h, by simp [hl], fun i hi => by
  have:=ZbG xs i (by omega)
  unfold rowTo
  rw [if_pos hi]
  simpa using this⟩
theorem ZaA {w w':World} {b t n g:Nat} {f:Nat->Value} (h:w.rowIs b t n f) (hg:w.grownBy w' (some g)) (hne:b ≠ g):w'.rowIs b t n f:=h.of_block (hg.block b h.lt (by simpa using hne))
theorem Zba (n b:Nat) (z:Int) (hz:z=(n:Int)) (ar:Option Addr) (len cap:Nat) (xs:List Int) (w W0:World) (hB:Below W0.heap.size W0 w) (hl:Lst W0 ar len cap xs) (hrow:w.rowIs b 66 1 (fun _=>.slice ar len cap)) (h0:0 < n) (hn:n<=len) (hlen:len<=1000) :
  Calls Tryz.prog 94 #[.int .i64 z,.pointer (some ⟨b,0,none⟩)] w fun e w'=>∃ ar',e=.returned (.slice (some ⟨w.heap.size,0,none⟩) n n)/\w'.rowIs w.heap.size 3 n (rowTo (fun i=>(xs.take n).getD i 0) n) ∧
   w'.rowIs b 66 1 (fun _=>.slice ar' (len - n) (cap - n))/\Lst W0 ar' (len - n) (cap - n) (xs.drop n)/\w.grownBy w' (some b):=by
 subst hz
 have hmk:=run_make_row' (P:=Tryz.prog) 66 3 (.int .i64 0) 8 Tryz.underlying66 info3 rfl .i64 .i64 n (by omega) (by omega)
 obtain ⟨i0,hi,hz0,hz1,hz2⟩:=info_parts info3
 have hsz1:(Tryz.prog.info? 3).map (·.size)=some 1:=by rw [hi]; simp [hz1]
 have hxl:=hl.len
 have hlc:=hl.cap
 have hlw:=hl.below hB nr
 obtain ⟨g,off,rfl,hgs,hc⟩:=hl.at (by omega)
 obtain ⟨g',off',hge,hgs',hcw⟩:=hlw.at (by omega)
 simp only [Option.some.injEq,Addr.mk.injEq,and_true] at hge
 obtain ⟨rfl,rfl⟩:=hge
 have hblt:=hrow.lt
 have c0:(w.alloc (.cells (madeCells #[.int .i64 0] n) 3)).cell? ⟨b,0,none⟩=some (.slice (some ⟨g,off,none⟩) len cap):=(hrow.alloc _).cell (i:=0) (by omega)
 have hcs:((xs.take n).map (Value.int .i64)).length=n:=by simp; omega
 obtain ⟨cs,HCS⟩:=nm ((xs.take n).map (Value.int .i64))
 rw [HCS.out] at hcs
 have hsrc:∀ j v,cs[j]?=some v->(w.alloc (.cells (madeCells #[.int .i64 0] n) 3)).cell? ((⟨g,off,none⟩:Addr).add j)=some v:=by
  intro j v hj
  have hjn:j < n:=by
   have:=(List.getElem?_eq_some_iff.1 hj).1
   omega
  rw [Go.WideShapes.add_plain]
  have h1:(w.alloc (.cells (madeCells #[.int .i64 0] n) 3)).cell? ⟨g,off+j,none⟩=w.cell? ⟨g,off+j,none⟩:=(((Below.refl w.heap.size w).alloc nr (.cells (madeCells #[.int .i64 0] n) 3))).cell (p:=⟨g,off+j,none⟩) (by exact hgs')
  rw [h1,hcw j (by omega),← hj,← HCS.out]
  simp [hjn,show j < xs.length by omega]
 have h1c:∀ v ∈ cs,v.oneCell'=true:=by
  intro v hv
  rw [← HCS.out] at hv
  obtain ⟨z,_,rfl⟩:=List.mem_map.1 hv
  rfl
 have hmin:cs.length=Nat.min len n:=by rw [hcs]; exact (Nat.min_eq_right hn).symm
 have hheap:=heap_alloc_new w (.cells (madeCells #[.int .i64 0] n) 3)
 have hml:(madeCells #[Value.int .i64 0] n).toList.length=n:=by simp [size_madeCells]
 have hcopy:=run_copy_row (P:=Tryz.prog) (w.alloc (.cells (madeCells #[.int .i64 0] n) 3)) 66 66 3 3 w.heap.size 0 n n ⟨g,off,none⟩ len cap (madeCells #[.int .i64 0] n) 3 cs Tryz.underlying66 hsz1 hheap hmin hsrc (by rw [hcs,size_madeCells]; omega) h1c
 have e1:((madeCells #[Value.int .i64 0] n).toList.take 0 ++ cs ++ (madeCells #[Value.int .i64 0] n).toList.drop (0+cs.length))=cs:=by
  rw [hcs,List.drop_eq_nil_of_le (by omega)]; simp
 rw [e1] at hcopy
 have hrow2:((w.alloc (.cells (madeCells #[.int .i64 0] n) 3)).setRow w.heap.size cs.toArray).rowIs w.heap.size 3 n (rowTo (fun i=>(xs.take n).getD i 0) n):=by
  refine row_of_heap (by simp; omega) ?_
  rw [HCS.out]
  exact setRow_heap _ _ _ _ _ _ hheap
 have hB2:Below w.heap.size w ((w.alloc (.cells (madeCells #[.int .i64 0] n) 3)).setRow w.heap.size cs.toArray):=below_setRow (br.alloc nr _) nr _
 generalize (w.alloc (.cells (madeCells #[.int .i64 0] n) 3)).setRow w.heap.size cs.toArray=w2 at hcopy hrow2 hB2
 clear e1 hml hheap hmin h1c hsrc hcs HCS hi hz0 hz1 hz2 hsz1
 have hrowb:=Zbg hrow hB2 hblt
 have c2:=hrowb.cell (i:=0) (by omega)
 have f2:=hrowb.frozen 0
 have hgr:w.grownBy w2 (some b):=⟨hB2.os,hB2.tape,hB2.output,hB2.size,fun k hk _=>hB2.block k hk⟩
 have hset:∀ v,w.grownBy (w2.setCell ⟨b,0,none⟩ v) (some b):=fun v=>⟨hB2.os,hB2.tape,hB2.output,by simpa using hB2.size,fun k hk hne=>(Go.Deep.blk_setCell_other _ _ _ _ (by simpa using hne)).trans (hB2.block k hk)⟩
 have hsub:=hl.sub (by omega) n len hn nr
 rw [List.take_of_length_le (by simp; omega)] at hsub
 go_enter Tryz.func94,Tryz.ntmps94
 by_cases hne:cap=n
 ·subst hne
  obtain rfl:len=cap:=by omega
  go_wp2
  go_ret
  refine ⟨some ⟨g,off,none⟩,rfl,hrow2.setOther (by simp; omega) _,(hrowb.set 0 _).congr (fun i hi=>?_),?_,hset _⟩
  ·rw [Nat.sub_self]
   exact if_pos (by omega)
  ·rw [Nat.sub_self,List.drop_eq_nil_of_le (by omega)]
   exact Lst.nil _ _ _
 ·go_wp2
  go_ret
  refine ⟨some ⟨g,off+n,none⟩,rfl,hrow2.setOther (by simp; omega) _,(hrowb.set 0 _).congr (fun i hi=>if_pos (by omega)),hsub,hset _⟩
theorem ZaX (n:Int) (w:World):Calls Tryz.prog 92 #[.int .i64 n] w fun e w'=>e=.returned (.bool (sideB n))/\w'=w:=by
 by_cases h1:1<=n
 ·by_cases h2:n<=4
  ·go_enter Tryz.func92,Tryz.ntmps92
   go_wp2
   go_ret
   exact ⟨Zai (by rw [ZaP h1 h2]),rfl⟩
  ·go_enter Tryz.func92,Tryz.ntmps92
   go_wp2
   go_ret
   exact ⟨Zai (by rw [ZbV (by omega)]),rfl⟩
 ·go_enter Tryz.func92,Tryz.ntmps92
  go_wp2
  go_ret
  exact ⟨Zai (by rw [ZbV (by omega)]),rfl⟩
def shpI (i h o:Int) (len:Nat) (xs:List Int):Int:=if sideB i=true/\sideB h=true/\sideB o=true then (if (len:Int)=h * i+h+o * h+o/\rightB xs=true then 0 else 5) else 1
def cutD (I H O:Nat) (xs:List Int):PD :=
 ⟨xs.take (H * I),((xs.drop (H * I)).drop H).take (O * H),(xs.drop (H * I)).take H,(((xs.drop (H * I)).drop H).drop (O * H)).take O⟩
def noPup:Pup:=⟨0,0,none,0,0,0,0,none,0,0,none,0,0,none,0,0⟩
def fn8 (v0 v1 v2 v3 v4 v5 v6 v7:Value) (i:Nat):Value:=if i=0 then v0 else if i=1 then v1 else if i=2 then v2 else if i=3 then v3 else if i=4 then v4 else if i=5 then v5 else if i=6 then v6 else v7
theorem lt8 {i:Nat} (h:i < 8):i=0\/i=1\/i=2\/i=3\/i=4\/i=5\/i=6\/i=7:=by omega
theorem ZaF (w:World) (v0 v1 v2 v3 v4 v5 v6 v7:Value) (t:TypeId):(w.alloc (.cells #[v0,v1,v2,v3,v4,v5,v6,v7] t)).rowIs w.heap.size t 8 (fn8 v0 v1 v2 v3 v4 v5 v6 v7) :=
 World.rowIs_alloc w #[v0,v1,v2,v3,v4,v5,v6,v7] t (fn8 v0 v1 v2 v3 v4 v5 v6 v7) (by
  intro i hi
  rcases lt8 hi with rfl | rfl | rfl | rfl | rfl | rfl | rfl | rfl <;> rfl)
theorem Zag {w:World} {b t:Nat} {v0 v1 v2 v3 v4 v5 v6 v7:Value} (h:w.rowIs b t 8 (fn8 v0 v1 v2 v3 v4 v5 v6 v7)):Box8 w b v0 v1 v2 v3 v4 v5 v6 v7 :=
 ⟨h.cell (i:=0) (by omega),h.cell (i:=1) (by omega),h.cell (i:=2) (by omega),h.cell (i:=3) (by omega),h.cell (i:=4) (by omega),h.cell (i:=5) (by omega),h.cell (i:=6) (by omega),h.cell (i:=7) (by omega)⟩
theorem Zbm {w:World} {b t:Nat} {f:Nat->Value} (h:w.rowIs b t 8 f) (v0 v1 v2 v3 v4 v5 v6 v7:Value) :
  ((((((((w.setCell ⟨b,0,none⟩ v0).setCell ⟨b,1,none⟩ v1).setCell ⟨b,2,none⟩ v2).setCell ⟨b,3,none⟩ v3).setCell ⟨b,4,none⟩ v4).setCell ⟨b,5,none⟩ v5).setCell ⟨b,6,none⟩ v6).setCell ⟨b,7,none⟩ v7).rowIs b t 8 (fn8 v0 v1 v2 v3 v4 v5 v6 v7):=by
 refine ((((((((h.set 0 v0).set 1 v1).set 2 v2).set 3 v3).set 4 v4).set 5 v5).set 6 v6).set 7 v7).congr (fun i hi=>?_)
 rcases lt8 hi with rfl | rfl | rfl | rfl | rfl | rfl | rfl | rfl <;> rfl
theorem shape_bad (i h o:Int) (a:Option Addr) (len cap:Nat) (xs:List Int) (w:World) (ha:Lst w a len cap xs) (hbad:shpI i h o len xs ≠ 0) :
  Calls Tryz.prog 59 #[.int .i64 i,.int .i64 h,.int .i64 o,.slice a len cap] w fun e w'=>e=.returned (.tuple #[noPup.val,.int .i64 (shpI i h o len xs)])/\Below w.heap.size w w':=by
 have hal:=(Below.refl w.heap.size w).alloc nr (.cells #[.int .i64 0,.int .i64 0,.slice none 0 0,.int .i64 0,.int .i64 0,.slice none 0 0,.slice none 0 0,.slice none 0 0] 102)
 have ha:=ha.below hal nr
 cases hi:sideB i with
 | false =>
   go_enter Tryz.func59,Tryz.ntmps59
   go_wp2_with (go_at_call 92; refine (ZaX _ _).mono ?_; rintro e w' ⟨rfl,rfl⟩)
   exact bodyPost_ret (v:=.tuple #[noPup.val,.int .i64 (shpI i h o len xs)]) (by simp [results,Tryz.results59,go_sem,noPup,Pup.val,Pup.cells,shpI,hi]) rfl ⟨rfl,hal⟩
 | true =>
   cases hh:sideB h with
   | false =>
     go_enter Tryz.func59,Tryz.ntmps59
     go_wp2_with (go_at_call 92; refine (ZaX _ _).mono ?_; rintro e w' ⟨rfl,rfl⟩)
     exact bodyPost_ret (v:=.tuple #[noPup.val,.int .i64 (shpI i h o len xs)]) (by simp [results,Tryz.results59,go_sem,noPup,Pup.val,Pup.cells,shpI,hh]) rfl ⟨rfl,hal⟩
   | true =>
     cases ho:sideB o with
     | false =>
       go_enter Tryz.func59,Tryz.ntmps59
       go_wp2_with (go_at_call 92; refine (ZaX _ _).mono ?_; rintro e w' ⟨rfl,rfl⟩)
       exact bodyPost_ret (v:=.tuple #[noPup.val,.int .i64 (shpI i h o len xs)]) (by simp [results,Tryz.results59,go_sem,noPup,Pup.val,Pup.cells,shpI,ho]) rfl ⟨rfl,hal⟩
     | true =>
       have bi:=ZaY hi
       have bh:=ZaY hh
       have bo:=ZaY ho
       have b1:=prod_side bh.1 bh.2 bi.1 bi.2
       have b2:=prod_side bo.1 bo.2 bh.1 bh.2
       by_cases hl:(len:Int)=h * i+h+o * h+o
       ·have ht:((len:Int) != h * i+h+o * h+o)=false:=by rw [bne_eq_false_iff_eq]; exact hl
        have HL:Hid ((len:Int)=h * i+h+o * h+o):=hl
        have hlen:len<=40:=by omega
        cases hx:rightB xs with
        | true=>exact absurd (by unfold shpI; rw [if_pos ⟨hi,hh,ho⟩,if_pos ⟨hl,hx⟩]) hbad
        | false =>
          clear hl
          have HV:Hid (shpI i h o len xs=5):=by
           show shpI i h o len xs=5
           unfold shpI
           rw [if_pos ⟨hi,hh,ho⟩,if_neg (fun g=>by have:=g.2; rw [hx] at this; cases this)]
          rw [HV.out]
          clear hbad
          go_enter Tryz.func59,Tryz.ntmps59
          go_wp2_with (first | (go_at_call 92; refine (ZaX _ _).mono ?_; rintro e w' ⟨rfl,rfl⟩) | (go_at_call 93; refine (Zcn _ _ _ xs _ ha (by omega)).mono ?_; rintro e w' ⟨rfl,rfl⟩; rw [hx]))
          exact bodyPost_ret (v:=.tuple #[noPup.val,.int .i64 5]) (by simp [results,Tryz.results59,go_sem,noPup,Pup.val,Pup.cells]) rfl ⟨rfl,hal⟩
       ·have ht:((len:Int) != h * i+h+o * h+o)=true:=by rw [bne_iff_ne]; exact hl
        have HV:Hid (shpI i h o len xs=5):=by
         show shpI i h o len xs=5
         unfold shpI
         rw [if_pos ⟨hi,hh,ho⟩,if_neg (fun g=>hl g.1)]
        rw [HV.out]
        clear hbad
        go_enter Tryz.func59,Tryz.ntmps59
        go_wp2_with (go_at_call 92; refine (ZaX _ _).mono ?_; rintro e w' ⟨rfl,rfl⟩)
        exact bodyPost_ret (v:=.tuple #[noPup.val,.int .i64 5]) (by simp [results,Tryz.results59,go_sem,noPup,Pup.val,Pup.cells]) rfl ⟨rfl,hal⟩
structure ShSt (W:World) (ar:Option Addr) (len cap:Nat) (f:Nat->Value) (wr:World):Prop where
 res:wr.rowIs W.heap.size 102 8 (fn8 (.int .i64 0) (.int .i64 0) (.slice none 0 0) (.int .i64 0) (.int .i64 0) (.slice none 0 0) (.slice none 0 0) (.slice none 0 0))
 rst:wr.rowIs (W.heap.size+1) 66 1 (fun _=>.slice ar len cap)
 pup:wr.rowIs (W.heap.size+1+1) 102 8 f
 bel:Below W.heap.size W wr
theorem ShSt.grown {W wr w':World} {ar ar':Option Addr} {len cap len' cap':Nat} {f:Nat->Value} (h:ShSt W ar len cap f wr) (hg:wr.grownBy w' (some (W.heap.size+1))) (hr:w'.rowIs (W.heap.size+1) 66 1 (fun _=>.slice ar' len' cap')):ShSt W ar' len' cap' f w' :=
 ⟨ZaA h.res hg (by omega),hr,ZaA h.pup hg (by omega),h.bel.grown hg h.bel.size (fun k hk=>by simp at hk; omega)⟩
theorem ShSt.set {W wr:World} {ar:Option Addr} {len cap:Nat} {f:Nat->Value} (h:ShSt W ar len cap f wr) (i:Nat) (v:Value):ShSt W ar len cap (fun j=>if j=i then v else f j) (wr.setCell ⟨W.heap.size+1+1,i,none⟩ v) :=
 ⟨h.res.setOther (by simp; omega) _,h.rst.setOther (by simp) _,h.pup.set i v,h.bel.setCell (by simp; omega) _⟩
theorem ShSt.congr {W wr:World} {ar:Option Addr} {len cap:Nat} {f g:Nat->Value} (h:ShSt W ar len cap f wr) (e:∀ i,i < 8->f i=g i):ShSt W ar len cap g wr:=⟨h.res,h.rst,h.pup.congr e,h.bel⟩
theorem shape_good (I H O:Nat) (a:Option Addr) (len cap:Nat) (xs:List Int) (w:World) (ha:Lst w a len cap xs) (i1:1<=I) (i2:I<=4) (j1:1<=H) (j2:H<=4) (o1:1<=O) (o2:O<=4) (hlen:len=H * I+H+O * H+O) (hx:rightB xs=true) :
  Calls Tryz.prog 59 #[.int .i64 I,.int .i64 H,.int .i64 O,.slice a len cap] w fun e w'=>∃ a1 a2 b1 b2,e=.returned (.tuple #[(rpup I H O a1 (H * I) a2 (O * H) b1 H b2 O).val,.int .i64 0])/\InPup w' (rpup I H O a1 (H * I) a2 (O * H) b1 H b2 O) (cutD I H O xs)/\Below w.heap.size w w':=by
 have hal:=(Below.refl w.heap.size w).alloc nr (.cells #[.int .i64 0,.int .i64 0,.slice none 0 0,.int .i64 0,.int .i64 0,.slice none 0 0,.slice none 0 0,.slice none 0 0] 102)
 have ha0:=ha.below hal nr
 have si:sideB (I:Int)=true:=ZaP (by omega) (by omega)
 have sh:sideB (H:Int)=true:=ZaP (by omega) (by omega)
 have so:sideB (O:Int)=true:=ZaP (by omega) (by omega)
 have s1:=Zae j2 i2
 have s2:=Zae o2 j2
 have s3:0 < H * I:=Nat.mul_pos (by omega) (by omega)
 have s4:0 < O * H:=Nat.mul_pos (by omega) (by omega)
 have z1:(H:Int) * (I:Int)=((H * I:Nat):Int):=by push_cast; rfl
 have z2:(O:Int) * (H:Int)=((O * H:Nat):Int):=by push_cast; rfl
 have b1:0<=(H:Int) * (I:Int):=by omega
 have b2:(H:Int) * (I:Int)<=16:=by omega
 have b3:0<=(O:Int) * (H:Int):=by omega
 have b4:(O:Int) * (H:Int)<=16:=by omega
 have ht:((len:Int) != (H:Int) * (I:Int)+(H:Int)+(O:Int) * (H:Int)+(O:Int))=false:=by rw [bne_eq_false_iff_eq,z1,z2]; omega
 have Z1:Hid ((H:Int) * (I:Int)=((H * I:Nat):Int)):=z1
 have Z2:Hid ((O:Int) * (H:Int)=((O * H:Nat):Int)):=z2
 have HLEN:Hid (len=H * I+H+O * H+O):=hlen
 have hl40:len<=40:=by omega
 clear z1 z2 hlen
 go_enter Tryz.func59,Tryz.ntmps59
 go_wp2_with (first | (go_at_call 92; refine (ZaX _ _).mono ?_; rintro e w' ⟨rfl,rfl⟩) | (go_at_call 93; refine (Zcn _ _ _ xs _ ha0 (by omega)).mono ?_; rintro e w' ⟨rfl,rfl⟩; rw [hx]))
 have st0:ShSt w a len cap (fn8 (.int .i64 0) (.int .i64 0) (.slice none 0 0) (.int .i64 0) (.int .i64 0) (.slice none 0 0) (.slice none 0 0) (.slice none 0 0)) (((w.alloc (.cells #[.int .i64 0,.int .i64 0,.slice none 0 0,.int .i64 0,.int .i64 0,.slice none 0 0,.slice none 0 0,.slice none 0 0] 102)).alloc (.cells #[.slice a len cap] 66)).alloc (.cells #[.int .i64 0,.int .i64 0,.slice none 0 0,.int .i64 0,.int .i64 0,.slice none 0 0,.slice none 0 0,.slice none 0 0] 102)):=by
  refine ⟨((ZaF w (.int .i64 0) (.int .i64 0) (.slice none 0 0) (.int .i64 0) (.int .i64 0) (.slice none 0 0) (.slice none 0 0) (.slice none 0 0) 102).alloc _).alloc _,?_,?_,(hal.alloc hal.size _).alloc (by simp; omega) _⟩
  ·have h:=World.rowIs_alloc (w.alloc (.cells #[.int .i64 0,.int .i64 0,.slice none 0 0,.int .i64 0,.int .i64 0,.slice none 0 0,.slice none 0 0,.slice none 0 0] 102)) #[.slice a len cap] 66 (fun _=>.slice a len cap) (by
    intro i hi
    obtain rfl:i=0:=by simpa using hi
    rfl)
   have h:=h.alloc (.cells #[.int .i64 0,.int .i64 0,.slice none 0 0,.int .i64 0,.int .i64 0,.slice none 0 0,.slice none 0 0,.slice none 0 0] 102)
   simpa using h
  ·have h:=ZaF ((w.alloc (.cells #[.int .i64 0,.int .i64 0,.slice none 0 0,.int .i64 0,.int .i64 0,.slice none 0 0,.slice none 0 0,.slice none 0 0] 102)).alloc (.cells #[.slice a len cap] 66)) (.int .i64 0) (.int .i64 0) (.slice none 0 0) (.int .i64 0) (.int .i64 0) (.slice none 0 0) (.slice none 0 0) (.slice none 0 0) 102
   simpa using h
 generalize (((w.alloc (.cells #[.int .i64 0,.int .i64 0,.slice none 0 0,.int .i64 0,.int .i64 0,.slice none 0 0,.slice none 0 0,.slice none 0 0] 102)).alloc (.cells #[.slice a len cap] 66)).alloc (.cells #[.int .i64 0,.int .i64 0,.slice none 0 0,.int .i64 0,.int .i64 0,.slice none 0 0,.slice none 0 0,.slice none 0 0] 102))=w0 at st0 ⊢
 clear ha0 hal
 have lt0:=st0.pup.lt
 refine (Zba (H * I) (w.heap.size+1) _ Z1.out a (len) (cap) (xs) w0 w st0.bel ha st0.rst s3 (by have:=HLEN.out; omega) (by omega)).mono ?_
 rintro e p0 ⟨ar0,rfl,hr0,hq,hl0,hg⟩
 have stq:=st0.grown hg hq
 clear st0 hg hq
 obtain ⟨c0,c1,c2,c3,c4,c5,c6,c7⟩:=Zag stq.pup
 have f0:=stq.pup.frozen 0
 have f1:=stq.pup.frozen 1
 have f2:=stq.pup.frozen 2
 go_wp2_with fail
 have st1:ShSt w ar0 (len - (H * I)) (cap - (H * I)) (fn8 (.int .i64 H) (.int .i64 I) (.slice (some ⟨w0.heap.size,0,none⟩) (H * I) (H * I)) (.int .i64 0) (.int .i64 0) (.slice none 0 0) (.slice none 0 0) (.slice none 0 0)) (((p0.setCell ⟨w.heap.size+1+1,0,none⟩ (.int .i64 H)).setCell ⟨w.heap.size+1+1,1,none⟩ (.int .i64 I)).setCell ⟨w.heap.size+1+1,2,none⟩ (.slice (some ⟨w0.heap.size,0,none⟩) (H * I) (H * I))):=(((stq.set 0 (.int .i64 H)).set 1 (.int .i64 I)).set 2 (.slice (some ⟨w0.heap.size,0,none⟩) (H * I) (H * I))).congr (fun i hi=>by rcases lt8 hi with rfl | rfl | rfl | rfl | rfl | rfl | rfl | rfl <;> rfl)
 have gr0:(((p0.setCell ⟨w.heap.size+1+1,0,none⟩ (.int .i64 H)).setCell ⟨w.heap.size+1+1,1,none⟩ (.int .i64 I)).setCell ⟨w.heap.size+1+1,2,none⟩ (.slice (some ⟨w0.heap.size,0,none⟩) (H * I) (H * I))).rowIs w0.heap.size 3 (H * I) _:=(((hr0.setOther (by simp; omega) _).setOther (by simp; omega) _).setOther (by simp; omega) _)
 have sz0:w0.heap.size < (((p0.setCell ⟨w.heap.size+1+1,0,none⟩ (.int .i64 H)).setCell ⟨w.heap.size+1+1,1,none⟩ (.int .i64 I)).setCell ⟨w.heap.size+1+1,2,none⟩ (.slice (some ⟨w0.heap.size,0,none⟩) (H * I) (H * I))).heap.size:=gr0.lt
 clear stq c0 c1 c2 c3 c4 c5 c6 c7 f0 f1 f2 hr0
 generalize (((p0.setCell ⟨w.heap.size+1+1,0,none⟩ (.int .i64 H)).setCell ⟨w.heap.size+1+1,1,none⟩ (.int .i64 I)).setCell ⟨w.heap.size+1+1,2,none⟩ (.slice (some ⟨w0.heap.size,0,none⟩) (H * I) (H * I)))=w1 at st1 gr0 sz0 ⊢
 have hr0:=gr0
 clear gr0
 have lt1:=st1.pup.lt
 refine (Zba H (w.heap.size+1) _ rfl ar0 (len - (H * I)) (cap - (H * I)) ((xs).drop (H * I)) w1 w st1.bel hl0 st1.rst (by omega) (by have:=HLEN.out; omega) (by omega)).mono ?_
 rintro e p1 ⟨ar1,rfl,hr1,hq,hl1,hg⟩
 have stq:=st1.grown hg hq
 replace hr0:=ZaA hr0 hg (by omega)
 clear st1 hg hq
 obtain ⟨c0,c1,c2,c3,c4,c5,c6,c7⟩:=Zag stq.pup
 have f6:=stq.pup.frozen 6
 go_wp2_with fail
 have st2:ShSt w ar1 (len - (H * I) - H) (cap - (H * I) - H) (fn8 (.int .i64 H) (.int .i64 I) (.slice (some ⟨w0.heap.size,0,none⟩) (H * I) (H * I)) (.int .i64 0) (.int .i64 0) (.slice none 0 0) (.slice (some ⟨w1.heap.size,0,none⟩) H H) (.slice none 0 0)) (p1.setCell ⟨w.heap.size+1+1,6,none⟩ (.slice (some ⟨w1.heap.size,0,none⟩) H H)):=(stq.set 6 (.slice (some ⟨w1.heap.size,0,none⟩) H H)).congr (fun i hi=>by rcases lt8 hi with rfl | rfl | rfl | rfl | rfl | rfl | rfl | rfl <;> rfl)
 have gr0:(p1.setCell ⟨w.heap.size+1+1,6,none⟩ (.slice (some ⟨w1.heap.size,0,none⟩) H H)).rowIs w0.heap.size 3 (H * I) _:=(hr0.setOther (by simp; omega) _)
 have gr1:(p1.setCell ⟨w.heap.size+1+1,6,none⟩ (.slice (some ⟨w1.heap.size,0,none⟩) H H)).rowIs w1.heap.size 3 H _:=(hr1.setOther (by simp; omega) _)
 have sz1:w1.heap.size < (p1.setCell ⟨w.heap.size+1+1,6,none⟩ (.slice (some ⟨w1.heap.size,0,none⟩) H H)).heap.size:=gr1.lt
 clear stq c0 c1 c2 c3 c4 c5 c6 c7 f6 hr0 hr1
 generalize (p1.setCell ⟨w.heap.size+1+1,6,none⟩ (.slice (some ⟨w1.heap.size,0,none⟩) H H))=w2 at st2 gr0 gr1 sz1 ⊢
 have hr0:=gr0
 have hr1:=gr1
 clear gr0 gr1
 have lt2:=st2.pup.lt
 refine (Zba (O * H) (w.heap.size+1) _ Z2.out ar1 (len - (H * I) - H) (cap - (H * I) - H) (((xs).drop (H * I)).drop H) w2 w st2.bel hl1 st2.rst s4 (by have:=HLEN.out; omega) (by omega)).mono ?_
 rintro e p2 ⟨ar2,rfl,hr2,hq,hl2,hg⟩
 have stq:=st2.grown hg hq
 replace hr0:=ZaA hr0 hg (by omega)
 replace hr1:=ZaA hr1 hg (by omega)
 clear st2 hg hq
 obtain ⟨c0,c1,c2,c3,c4,c5,c6,c7⟩:=Zag stq.pup
 have f3:=stq.pup.frozen 3
 have f4:=stq.pup.frozen 4
 have f5:=stq.pup.frozen 5
 go_wp2_with fail
 have st3:ShSt w ar2 (len - (H * I) - H - (O * H)) (cap - (H * I) - H - (O * H)) (fn8 (.int .i64 H) (.int .i64 I) (.slice (some ⟨w0.heap.size,0,none⟩) (H * I) (H * I)) (.int .i64 O) (.int .i64 H) (.slice (some ⟨w2.heap.size,0,none⟩) (O * H) (O * H)) (.slice (some ⟨w1.heap.size,0,none⟩) H H) (.slice none 0 0)) (((p2.setCell ⟨w.heap.size+1+1,3,none⟩ (.int .i64 O)).setCell ⟨w.heap.size+1+1,4,none⟩ (.int .i64 H)).setCell ⟨w.heap.size+1+1,5,none⟩ (.slice (some ⟨w2.heap.size,0,none⟩) (O * H) (O * H))):=(((stq.set 3 (.int .i64 O)).set 4 (.int .i64 H)).set 5 (.slice (some ⟨w2.heap.size,0,none⟩) (O * H) (O * H))).congr (fun i hi=>by rcases lt8 hi with rfl | rfl | rfl | rfl | rfl | rfl | rfl | rfl <;> rfl)
 have gr0:(((p2.setCell ⟨w.heap.size+1+1,3,none⟩ (.int .i64 O)).setCell ⟨w.heap.size+1+1,4,none⟩ (.int .i64 H)).setCell ⟨w.heap.size+1+1,5,none⟩ (.slice (some ⟨w2.heap.size,0,none⟩) (O * H) (O * H))).rowIs w0.heap.size 3 (H * I) _:=(((hr0.setOther (by simp; omega) _).setOther (by simp; omega) _).setOther (by simp; omega) _)
 have gr1:(((p2.setCell ⟨w.heap.size+1+1,3,none⟩ (.int .i64 O)).setCell ⟨w.heap.size+1+1,4,none⟩ (.int .i64 H)).setCell ⟨w.heap.size+1+1,5,none⟩ (.slice (some ⟨w2.heap.size,0,none⟩) (O * H) (O * H))).rowIs w1.heap.size 3 H _:=(((hr1.setOther (by simp; omega) _).setOther (by simp; omega) _).setOther (by simp; omega) _)
 have gr2:(((p2.setCell ⟨w.heap.size+1+1,3,none⟩ (.int .i64 O)).setCell ⟨w.heap.size+1+1,4,none⟩ (.int .i64 H)).setCell ⟨w.heap.size+1+1,5,none⟩ (.slice (some ⟨w2.heap.size,0,none⟩) (O * H) (O * H))).rowIs w2.heap.size 3 (O * H) _:=(((hr2.setOther (by simp; omega) _).setOther (by simp; omega) _).setOther (by simp; omega) _)
 have sz2:w2.heap.size < (((p2.setCell ⟨w.heap.size+1+1,3,none⟩ (.int .i64 O)).setCell ⟨w.heap.size+1+1,4,none⟩ (.int .i64 H)).setCell ⟨w.heap.size+1+1,5,none⟩ (.slice (some ⟨w2.heap.size,0,none⟩) (O * H) (O * H))).heap.size:=gr2.lt
 clear stq c0 c1 c2 c3 c4 c5 c6 c7 f3 f4 f5 hr0 hr1 hr2
 generalize (((p2.setCell ⟨w.heap.size+1+1,3,none⟩ (.int .i64 O)).setCell ⟨w.heap.size+1+1,4,none⟩ (.int .i64 H)).setCell ⟨w.heap.size+1+1,5,none⟩ (.slice (some ⟨w2.heap.size,0,none⟩) (O * H) (O * H)))=w3 at st3 gr0 gr1 gr2 sz2 ⊢
 have hr0:=gr0
 have hr1:=gr1
 have hr2:=gr2
 clear gr0 gr1 gr2
 have lt3:=st3.pup.lt
 refine (Zba O (w.heap.size+1) _ rfl ar2 (len - (H * I) - H - (O * H)) (cap - (H * I) - H - (O * H)) ((((xs).drop (H * I)).drop H).drop (O * H)) w3 w st3.bel hl2 st3.rst (by omega) (by have:=HLEN.out; omega) (by omega)).mono ?_
 rintro e p3 ⟨ar3,rfl,hr3,hq,hl3,hg⟩
 have stq:=st3.grown hg hq
 replace hr0:=ZaA hr0 hg (by omega)
 replace hr1:=ZaA hr1 hg (by omega)
 replace hr2:=ZaA hr2 hg (by omega)
 clear st3 hg hq
 obtain ⟨c0,c1,c2,c3,c4,c5,c6,c7⟩:=Zag stq.pup
 have f7:=stq.pup.frozen 7
 obtain ⟨r0,r1,r2,r3,r4,r5,r6,r7⟩:=Zag stq.res
 have g0:=stq.res.frozen 0
 have g1:=stq.res.frozen 1
 have g2:=stq.res.frozen 2
 have g3:=stq.res.frozen 3
 have g4:=stq.res.frozen 4
 have g5:=stq.res.frozen 5
 have g6:=stq.res.frozen 6
 have g7:=stq.res.frozen 7
 go_wp2
 have st4:ShSt w ar3 (len - (H * I) - H - (O * H) - O) (cap - (H * I) - H - (O * H) - O) (fn8 (.int .i64 H) (.int .i64 I) (.slice (some ⟨w0.heap.size,0,none⟩) (H * I) (H * I)) (.int .i64 O) (.int .i64 H) (.slice (some ⟨w2.heap.size,0,none⟩) (O * H) (O * H)) (.slice (some ⟨w1.heap.size,0,none⟩) H H) (.slice (some ⟨w3.heap.size,0,none⟩) O O)) (p3.setCell ⟨w.heap.size+1+1,7,none⟩ (.slice (some ⟨w3.heap.size,0,none⟩) O O)):=(stq.set 7 (.slice (some ⟨w3.heap.size,0,none⟩) O O)).congr (fun i hi=>by rcases lt8 hi with rfl | rfl | rfl | rfl | rfl | rfl | rfl | rfl <;> rfl)
 have gr0:(p3.setCell ⟨w.heap.size+1+1,7,none⟩ (.slice (some ⟨w3.heap.size,0,none⟩) O O)).rowIs w0.heap.size 3 (H * I) _:=(hr0.setOther (by simp; omega) _)
 have gr1:(p3.setCell ⟨w.heap.size+1+1,7,none⟩ (.slice (some ⟨w3.heap.size,0,none⟩) O O)).rowIs w1.heap.size 3 H _:=(hr1.setOther (by simp; omega) _)
 have gr2:(p3.setCell ⟨w.heap.size+1+1,7,none⟩ (.slice (some ⟨w3.heap.size,0,none⟩) O O)).rowIs w2.heap.size 3 (O * H) _:=(hr2.setOther (by simp; omega) _)
 have gr3:(p3.setCell ⟨w.heap.size+1+1,7,none⟩ (.slice (some ⟨w3.heap.size,0,none⟩) O O)).rowIs w3.heap.size 3 O _:=(hr3.setOther (by simp; omega) _)
 have sz3:w3.heap.size < (p3.setCell ⟨w.heap.size+1+1,7,none⟩ (.slice (some ⟨w3.heap.size,0,none⟩) O O)).heap.size:=gr3.lt
 clear stq c0 c1 c2 c3 c4 c5 c6 c7 f7 hr0 hr1 hr2 hr3
 have hq:=Zbm st4.res (.int .i64 H) (.int .i64 I) (.slice (some ⟨w0.heap.size,0,none⟩) (H * I) (H * I)) (.int .i64 O) (.int .i64 H) (.slice (some ⟨w2.heap.size,0,none⟩) (O * H) (O * H)) (.slice (some ⟨w1.heap.size,0,none⟩) H H) (.slice (some ⟨w3.heap.size,0,none⟩) O O)
 obtain ⟨q0,q1,q2,q3,q4,q5,q6,q7⟩:=Zag hq
 refine bodyPost_ret (v:=.tuple #[(rpup I H O (some ⟨w0.heap.size,0,none⟩) (H * I) (some ⟨w2.heap.size,0,none⟩) (O * H) (some ⟨w1.heap.size,0,none⟩) H (some ⟨w3.heap.size,0,none⟩) O).val,.int .i64 0]) (by simp [results,Tryz.results59,go_sem,rpup,Pup.val,Pup.cells,q0,q1,q2,q3,q4,q5,q6,q7]) rfl ⟨_,_,_,_,rfl,?_,?_⟩
 ·have keep:∀ (g n:Nat) (f:Nat->Value) (v0 v1 v2 v3 v4 v5 v6 v7:Value) (wq:World),wq.rowIs g 3 n f->w.heap.size < g->((((((((wq.setCell ⟨w.heap.size,0,none⟩ v0).setCell ⟨w.heap.size,1,none⟩ v1).setCell ⟨w.heap.size,2,none⟩ v2).setCell ⟨w.heap.size,3,none⟩ v3).setCell ⟨w.heap.size,4,none⟩ v4).setCell ⟨w.heap.size,5,none⟩ v5).setCell ⟨w.heap.size,6,none⟩ v6).setCell ⟨w.heap.size,7,none⟩ v7).rowIs g 3 n f:=by
   intro g n f v0 v1 v2 v3 v4 v5 v6 v7 wq h hg
   exact (((((((h.setOther (by simp; omega) _).setOther (by simp; omega) _).setOther (by simp; omega) _).setOther (by simp; omega) _).setOther (by simp; omega) _).setOther (by simp; omega) _).setOther (by simp; omega) _).setOther (by simp; omega) _
  have hl:=ha.len
  have:=HLEN.out
  refine ⟨?_,?_,?_,?_⟩
  ·show Lst _ _ (H * I) (H * I) (xs.take (H * I))
   exact Lst.row (keep _ _ _ _ _ _ _ _ _ _ _ _ gr0 (by omega)) (by simp; omega) (fun i hi=>by unfold rowTo; rw [if_pos hi])
  ·show Lst _ _ (O * H) (O * H) (((xs.drop (H * I)).drop H).take (O * H))
   exact Lst.row (keep _ _ _ _ _ _ _ _ _ _ _ _ gr2 (by omega)) (by simp; omega) (fun i hi=>by unfold rowTo; rw [if_pos hi])
  ·show Lst _ _ H H ((xs.drop (H * I)).take H)
   exact Lst.row (keep _ _ _ _ _ _ _ _ _ _ _ _ gr1 (by omega)) (by simp; omega) (fun i hi=>by unfold rowTo; rw [if_pos hi])
  ·show Lst _ _ O O ((((xs.drop (H * I)).drop H).drop (O * H)).take O)
   exact Lst.row (keep _ _ _ _ _ _ _ _ _ _ _ _ gr3 (by omega)) (by simp; omega) (fun i hi=>by unfold rowTo; rw [if_pos hi])
 ·exact (((((((st4.bel.setCell nr _).setCell nr _).setCell nr _).setCell nr _).setCell nr _).setCell nr _).setCell nr _).setCell nr _
theorem cutD_flat {I H O:Nat} {xs:List Int} (h:xs.length=H * I+H+O * H+O):flatD (cutD I H O xs)=xs:=by
 unfold flatD cutD
 dsimp only
 rw [List.take_of_length_le (l:=((xs.drop (H * I)).drop H).drop (O * H)) (by simp; omega),List.take_append_drop,List.take_append_drop,List.take_append_drop]
end Go.Proofs.YthmiojmlaclgaaaGreatDoor.Fx
