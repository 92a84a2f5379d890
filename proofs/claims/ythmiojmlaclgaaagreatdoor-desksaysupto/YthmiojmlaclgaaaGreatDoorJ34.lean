/- What the law stands on: DkE DkF DkG DkM DkN. -/
import Derived.Test.YthmiojmlaclgaaaGreatDoorJ00
import Derived.Test.YthmiojmlaclgaaaGreatDoorJ28
import Derived.Test.YthmiojmlaclgaaaGreatDoorJ23
import Derived.Test.YthmiojmlaclgaaaGreatDoorJ06
import Derived.Test.YthmiojmlaclgaaaGreatDoorJ21
import Derived.Deep.QuietTactic
import Derived.BigQuiet
import Derived.Deep.RegionHeld3
import Derived.Lib.OthersKept
import Derived.Test.YthmiojmlaclgaaaGreatDoorJ12
import Derived.Shelf.Strings.BuilderK
set_option maxRecDepth 100000
set_option maxHeartbeats 12800000
namespace Go.Proofs.YthmiojmlaclgaaaGreatDoor.Fx
open Go.RowKit
theorem LstS.rest {w:World} {b off n c:Nat} {ws:List (List UInt8)} (h:LstS w (some ⟨b,off,none⟩) n c ws) {k:Nat} (hk:k<=n) (a:Option Addr) (ha:k < n->a=some ⟨b,off+k,none⟩):LstS w a (n - k) (c - k) (ws.drop k):=by
 by_cases h0:k < n
 ·rw [ha h0]; exact h.post h0
 ·have hl:=h.len
  have hc:=h.cap
  exact ⟨by rw [List.length_drop]; omega,by omega,.inl (by omega)⟩
theorem getD_take_len {ws:List (List UInt8)} {B:Nat} (h:∀ i,(ws.getD i []).length<=B) (k i:Nat):((ws.take k).getD i []).length<=B:=by
 by_cases hi:i < k
 ·rw [List.getD_eq_getElem?_getD,List.getElem?_take_of_lt hi,← List.getD_eq_getElem?_getD]; exact h i
 ·rw [List.getD_eq_getElem?_getD,List.getElem?_eq_none (by rw [List.length_take]; omega)]; simp
theorem Zau {ws:List (List UInt8)} {B:Nat} (h:∀ i,(ws.getD i []).length<=B) (k i:Nat):((ws.drop k).getD i []).length<=B:=by
 rw [List.getD_eq_getElem?_getD,List.getElem?_drop,← List.getD_eq_getElem?_getD]; exact h _
theorem Lst.setFar2 {w:World} {g off n c:Nat} {xs:List Int} (h:Lst w (some ⟨g,off,none⟩) n c xs) {b i:Nat} {v:Value} (hne:g ≠ b):Lst (w.setCell ⟨b,i,none⟩ v) (some ⟨g,off,none⟩) n c xs:=by
 refine ⟨h.1,h.2.1,?_⟩
 rcases h.2.2 with h0 | ⟨b',off',e,hs,hc⟩
 ·exact .inl h0
 ·simp only [Option.some.injEq,Addr.mk.injEq,and_true] at e
  obtain ⟨rfl,rfl⟩:=e
  refine .inr ⟨g,off,rfl,by rw [World.size_setCell]; exact hs,fun j hj=>?_⟩
  rw [World.cell?_setCell_far _ _ _ _ (by exact fun e=>hne e.symm)]
  exact hc j hj
theorem exampleOf_calls (a:Option Addr) (n c:Nat) (ws:List (List UInt8)) (w:World) (hl:LstS w a n c ws) (hn:n<=70000) (hw:∀ i,(ws.getD i []).length<=70000) (hL:LD w) :
  Calls Tryz.prog 47 #[.slice a n c] w fun e w'=>ExR ws w e w'/\Below w.heap.size w w':=by
 have HN:Hid (ws.length=n):=hl.len
 have hcap:=hl.cap
 have hal:=Zac w (.cells #[.slice none 0 0,.slice none 0 0] 78)
 have R0:=Zaj w (.slice none 0 0) (.slice none 0 0) 78
 obtain ⟨W,HWW⟩:∃ q,Hid (q=w.alloc (.cells #[.slice none 0 0,.slice none 0 0] 78)):=⟨_,rfl⟩
 have hsW:W.heap.size=w.heap.size+1:=by rw [HWW.out]; simp
 rw [← HWW.out] at hal R0
 have lW:=hl.below hal nr
 have LW:=hL.below hal nr
 have IX:=idxS_calls a n c ws W lW (by omega)
 rcases slash_ways ws with hm | ⟨k,hk,hkn⟩
 ·rw [hm] at IX
  obtain ⟨r0,r1⟩:=Zaa R0
  have f0:=R0.frozen 0
  have f1:=R0.frozen 1
  have HE:Hid (exO ws=none):=by show _=_; unfold exO; rw [if_pos (by omega)]
  go_enter Tryz.func47,Tryz.ntmps47
  go_upto_region 1 with fail
  rw [← HWW.out]
  go_wp2_with (go_at_call 38; refine IX.mono ?_; rintro e w' ⟨rfl,hwE⟩; have hwF:=hwE.symm; subst hwF)
  have R3:=ZaB R0 (.slice none 0 0) (.slice none 0 0)
  obtain ⟨e0,e1⟩:=Zaa R3
  exact bodyPost_ret (v:=.tuple #[.agg #[.slice none 0 0,.slice none 0 0],.bool false]) (by simp [results,Tryz.results47,go_sem,e0,e1]) rfl ⟨.inr ⟨HE.out,rfl⟩,(hal.setCell (p:=⟨w.heap.size,0,none⟩) nr _).setCell (p:=⟨w.heap.size,1,none⟩) nr _⟩
 ·rw [hk] at IX
  have hkn2:k < n:=by rw [HN.out] at hkn; exact hkn
  obtain ⟨b,off,rfl,hb,_⟩:=hl.at (by omega)
  have N1:=Lib.hid (Zat (some ⟨b,off,none⟩) k c (ws.take k) W (lW.pre (by omega)) (by omega) (getD_take_len hw k) LW)
  have HN2:Hid (∀ q aa,Below W.heap.size W q->(k+1 < n->aa=some ⟨b,off+(k+1),none⟩)->Calls Tryz.prog 32 #[.slice aa (n - (k+1)) (c - (k+1))] q fun e w'=>NumsR (ws.drop (k+1)) (n - (k+1)) q e w'/\Below q.heap.size q w'):=fun q aa hq ha=>Zat aa _ _ _ q ((lW.below hq nr).rest (by omega) aa ha) (by omega) (Zau hw (k+1)) (LW.below hq nr)
  have q1:(0:Int)<=(k:Int):=by omega
  have q2:(k:Int)<=(n:Int):=by omega
  have q3:(n:Int)<=(c:Int):=by omega
  have q4:(k:Int)<=(c:Int):=by omega
  have q5:(k:Int)+1<=(n:Int):=by omega
  have q6:¬ (k:Int) < 0:=by omega
  clear hw hkn
  have HK:Hid (slashAt ws=(k:Int)):=hk
  clear hk
  go_enter Tryz.func47,Tryz.ntmps47
  go_upto_region 1 with fail
  rw [← HWW.out]
  go_wp2_with (go_at_call 38; refine IX.mono ?_; rintro e w' ⟨rfl,hwE⟩; have hwF:=hwE.symm; subst hwF)
  refine N1.out.mono ?_
  rintro e w1 ⟨h1,hw1⟩
  have hB1:=hal.trans (hw1.mono hal.size)
  have R1:=R0.of_block (hw1.block _ (by omega))
  have hs1:=hw1.size
  by_cases hck:c=k+1
  ·obtain rfl:n=k+1:=by omega
   subst hck
   have M2:=HN2.out w1 (some ⟨b,off,none⟩) hw1 (fun h=>by omega)
   rw [Nat.sub_self] at M2
   clear HN2 IX N1 hl lW
   rcases h1 with ⟨z1,hz1,rfl,l1,t1,u1⟩ | ⟨hz1,rfl⟩
   ·have HZ1:Hid (numsO (ws.take k)=some z1):=hz1
    rw [hsW] at l1 u1
    clear hz1
    go_wp2_with fail
    refine M2.mono ?_
    rintro e w2 ⟨h2,hw2⟩
    rcases h2 with ⟨z2,hz2,rfl,l2,t2,u2⟩ | ⟨hz2,rfl⟩
    ·have HE:Hid (exO ws=some (z1,z2)):=exO_good HK.out HZ1.out hz2
     clear hz2
     have R2:=R1.of_block (hw2.block _ R1.lt)
     have hB2:=hB1.trans (hw2.mono hB1.size)
     obtain ⟨r0,r1⟩:=Zaa R2
     have f0:=R2.frozen 0
     have f1:=R2.frozen 1
     go_wp2_with fail
     have R3:=ZaB R2 (.slice (some ⟨w.heap.size+1,0,none⟩) k k) (.slice (some ⟨w1.heap.size,0,none⟩) 0 0)
     obtain ⟨e0,e1⟩:=Zaa R3
     refine bodyPost_ret (v:=.tuple #[.agg #[.slice (some ⟨w.heap.size+1,0,none⟩) k k,.slice (some ⟨w1.heap.size,0,none⟩) 0 0],.bool true]) (by simp [results,Tryz.results47,go_sem,e0,e1]) rfl ⟨.inl ⟨⟨_,k,k,_,0,0⟩,z1,z2,HE.out,rfl,⟨?_,?_⟩,?_,?_⟩,(hB2.setCell (p:=⟨w.heap.size,0,none⟩) nr _).setCell (p:=⟨w.heap.size,1,none⟩) nr _⟩
     ·exact ((l1.below hw2 nr).setFar2 (by omega)).setFar2 (by omega)
     ·exact (l2.setFar2 (by omega)).setFar2 (by omega)
     ·intro g o e; simp only [Option.some.injEq,Addr.mk.injEq,and_true] at e; have:=hw2.size; obtain ⟨rfl,_⟩:=e; exact ⟨by omega,((u1.of (hw2.block _ (by omega))).far (by omega)).far (by omega)⟩
     ·intro g o e; simp only [Option.some.injEq,Addr.mk.injEq,and_true] at e; have:=hw2.size; obtain ⟨rfl,_⟩:=e; exact ⟨by omega,(u2.far (by omega)).far (by omega)⟩
    ·have HE:Hid (exO ws=none):=ZbN HK.out (.inr hz2)
     clear hz2
     have R2:=R1.of_block (hw2.block _ R1.lt)
     have hB2:=hB1.trans (hw2.mono hB1.size)
     obtain ⟨r0,r1⟩:=Zaa R2
     have f0:=R2.frozen 0
     have f1:=R2.frozen 1
     go_wp2_with fail
     have R3:=ZaB R2 (.slice none 0 0) (.slice none 0 0)
     obtain ⟨e0,e1⟩:=Zaa R3
     exact bodyPost_ret (v:=.tuple #[.agg #[.slice none 0 0,.slice none 0 0],.bool false]) (by simp [results,Tryz.results47,go_sem,e0,e1]) rfl ⟨.inr ⟨HE.out,rfl⟩,(hB2.setCell (p:=⟨w.heap.size,0,none⟩) nr _).setCell (p:=⟨w.heap.size,1,none⟩) nr _⟩
   ·have HZ1:Hid (numsO (ws.take k)=none):=hz1
    clear hz1
    go_wp2_with fail
    refine M2.mono ?_
    rintro e w2 ⟨h2,hw2⟩
    rcases h2 with ⟨z2,hz2,rfl,l2,t2,u2⟩ | ⟨hz2,rfl⟩
    ·have HE:Hid (exO ws=none):=ZbN HK.out (.inl HZ1.out)
     clear hz2
     have R2:=R1.of_block (hw2.block _ R1.lt)
     have hB2:=hB1.trans (hw2.mono hB1.size)
     obtain ⟨r0,r1⟩:=Zaa R2
     have f0:=R2.frozen 0
     have f1:=R2.frozen 1
     go_wp2_with fail
     have R3:=ZaB R2 (.slice none 0 0) (.slice none 0 0)
     obtain ⟨e0,e1⟩:=Zaa R3
     exact bodyPost_ret (v:=.tuple #[.agg #[.slice none 0 0,.slice none 0 0],.bool false]) (by simp [results,Tryz.results47,go_sem,e0,e1]) rfl ⟨.inr ⟨HE.out,rfl⟩,(hB2.setCell (p:=⟨w.heap.size,0,none⟩) nr _).setCell (p:=⟨w.heap.size,1,none⟩) nr _⟩
    ·have HE:Hid (exO ws=none):=ZbN HK.out (.inl HZ1.out)
     clear hz2
     have R2:=R1.of_block (hw2.block _ R1.lt)
     have hB2:=hB1.trans (hw2.mono hB1.size)
     obtain ⟨r0,r1⟩:=Zaa R2
     have f0:=R2.frozen 0
     have f1:=R2.frozen 1
     go_wp2_with fail
     have R3:=ZaB R2 (.slice none 0 0) (.slice none 0 0)
     obtain ⟨e0,e1⟩:=Zaa R3
     exact bodyPost_ret (v:=.tuple #[.agg #[.slice none 0 0,.slice none 0 0],.bool false]) (by simp [results,Tryz.results47,go_sem,e0,e1]) rfl ⟨.inr ⟨HE.out,rfl⟩,(hB2.setCell (p:=⟨w.heap.size,0,none⟩) nr _).setCell (p:=⟨w.heap.size,1,none⟩) nr _⟩
  ·have M2:=HN2.out w1 (some ⟨b,off+(k+1),none⟩) hw1 (fun _=>rfl)
   have q7:¬ c=k+1:=hck
   clear HN2 IX N1 hl lW
   rcases h1 with ⟨z1,hz1,rfl,l1,t1,u1⟩ | ⟨hz1,rfl⟩
   ·have HZ1:Hid (numsO (ws.take k)=some z1):=hz1
    rw [hsW] at l1 u1
    clear hz1
    go_wp2_with fail
    refine M2.mono ?_
    rintro e w2 ⟨h2,hw2⟩
    rcases h2 with ⟨z2,hz2,rfl,l2,t2,u2⟩ | ⟨hz2,rfl⟩
    ·have HE:Hid (exO ws=some (z1,z2)):=exO_good HK.out HZ1.out hz2
     clear hz2
     have R2:=R1.of_block (hw2.block _ R1.lt)
     have hB2:=hB1.trans (hw2.mono hB1.size)
     obtain ⟨r0,r1⟩:=Zaa R2
     have f0:=R2.frozen 0
     have f1:=R2.frozen 1
     go_wp2_with fail
     have R3:=ZaB R2 (.slice (some ⟨w.heap.size+1,0,none⟩) k k) (.slice (some ⟨w1.heap.size,0,none⟩) (n - (k+1)) (n - (k+1)))
     obtain ⟨e0,e1⟩:=Zaa R3
     refine bodyPost_ret (v:=.tuple #[.agg #[.slice (some ⟨w.heap.size+1,0,none⟩) k k,.slice (some ⟨w1.heap.size,0,none⟩) (n - (k+1)) (n - (k+1))],.bool true]) (by simp [results,Tryz.results47,go_sem,e0,e1]) rfl ⟨.inl ⟨⟨_,k,k,_,(n - (k+1)),(n - (k+1))⟩,z1,z2,HE.out,rfl,⟨?_,?_⟩,?_,?_⟩,(hB2.setCell (p:=⟨w.heap.size,0,none⟩) nr _).setCell (p:=⟨w.heap.size,1,none⟩) nr _⟩
     ·exact ((l1.below hw2 nr).setFar2 (by omega)).setFar2 (by omega)
     ·exact (l2.setFar2 (by omega)).setFar2 (by omega)
     ·intro g o e; simp only [Option.some.injEq,Addr.mk.injEq,and_true] at e; have:=hw2.size; obtain ⟨rfl,_⟩:=e; exact ⟨by omega,((u1.of (hw2.block _ (by omega))).far (by omega)).far (by omega)⟩
     ·intro g o e; simp only [Option.some.injEq,Addr.mk.injEq,and_true] at e; have:=hw2.size; obtain ⟨rfl,_⟩:=e; exact ⟨by omega,(u2.far (by omega)).far (by omega)⟩
    ·have HE:Hid (exO ws=none):=ZbN HK.out (.inr hz2)
     clear hz2
     have R2:=R1.of_block (hw2.block _ R1.lt)
     have hB2:=hB1.trans (hw2.mono hB1.size)
     obtain ⟨r0,r1⟩:=Zaa R2
     have f0:=R2.frozen 0
     have f1:=R2.frozen 1
     go_wp2_with fail
     have R3:=ZaB R2 (.slice none 0 0) (.slice none 0 0)
     obtain ⟨e0,e1⟩:=Zaa R3
     exact bodyPost_ret (v:=.tuple #[.agg #[.slice none 0 0,.slice none 0 0],.bool false]) (by simp [results,Tryz.results47,go_sem,e0,e1]) rfl ⟨.inr ⟨HE.out,rfl⟩,(hB2.setCell (p:=⟨w.heap.size,0,none⟩) nr _).setCell (p:=⟨w.heap.size,1,none⟩) nr _⟩
   ·have HZ1:Hid (numsO (ws.take k)=none):=hz1
    clear hz1
    go_wp2_with fail
    refine M2.mono ?_
    rintro e w2 ⟨h2,hw2⟩
    rcases h2 with ⟨z2,hz2,rfl,l2,t2,u2⟩ | ⟨hz2,rfl⟩
    ·have HE:Hid (exO ws=none):=ZbN HK.out (.inl HZ1.out)
     clear hz2
     have R2:=R1.of_block (hw2.block _ R1.lt)
     have hB2:=hB1.trans (hw2.mono hB1.size)
     obtain ⟨r0,r1⟩:=Zaa R2
     have f0:=R2.frozen 0
     have f1:=R2.frozen 1
     go_wp2_with fail
     have R3:=ZaB R2 (.slice none 0 0) (.slice none 0 0)
     obtain ⟨e0,e1⟩:=Zaa R3
     exact bodyPost_ret (v:=.tuple #[.agg #[.slice none 0 0,.slice none 0 0],.bool false]) (by simp [results,Tryz.results47,go_sem,e0,e1]) rfl ⟨.inr ⟨HE.out,rfl⟩,(hB2.setCell (p:=⟨w.heap.size,0,none⟩) nr _).setCell (p:=⟨w.heap.size,1,none⟩) nr _⟩
    ·have HE:Hid (exO ws=none):=ZbN HK.out (.inl HZ1.out)
     clear hz2
     have R2:=R1.of_block (hw2.block _ R1.lt)
     have hB2:=hB1.trans (hw2.mono hB1.size)
     obtain ⟨r0,r1⟩:=Zaa R2
     have f0:=R2.frozen 0
     have f1:=R2.frozen 1
     go_wp2_with fail
     have R3:=ZaB R2 (.slice none 0 0) (.slice none 0 0)
     obtain ⟨e0,e1⟩:=Zaa R3
     exact bodyPost_ret (v:=.tuple #[.agg #[.slice none 0 0,.slice none 0 0],.bool false]) (by simp [results,Tryz.results47,go_sem,e0,e1]) rfl ⟨.inr ⟨HE.out,rfl⟩,(hB2.setCell (p:=⟨w.heap.size,0,none⟩) nr _).setCell (p:=⟨w.heap.size,1,none⟩) nr _⟩
section
def dcs (c:Cfg) (v p:Value):List Value:=c.cells.toList ++ [v,p]
def dcell (c:Cfg) (v p:Value) (i:Nat):Value:=(dcs c v p).getD i undef
def OwnE (base:Nat) (w:World) (v:Value) (n:Nat) (X:Nat->Exm):Prop:=w.ownsRow base 78 2 v n (stCells X n)
def LDb (base:Nat) (w:World):Prop:=∃ w0,LD w0/\w0.heap.size<=base/\Below w0.heap.size w0 w
theorem LDb.out {base:Nat} {w:World} (h:LDb base w):LD w:=by
 obtain ⟨w0,h1,_,h3⟩:=h
 exact h1.below h3 nr
theorem LDb.low {base:Nat} {w w':World} (h:LDb base w) (hb:Below base w w'):LDb base w':=by
 obtain ⟨w0,h1,h2,h3⟩:=h
 exact ⟨w0,h1,h2,h3.trans (hb.mono h2)⟩
structure DkIn (base:Nat) (w:World) (b s:Nat) (d:Dsk) (a:Option Addr) (cap:Nat) (X:Nat->Exm):Prop where
 row:w.rowIs b 64 13 (dcell d.c (.slice a d.n cap) (.pointer (some ⟨s,0,none⟩)))
 st:StoAt w s d.T 4096 d.sy
 own:OwnE base w (.slice a d.n cap) d.n X
 ex:∀ i,i < d.n->InEx w (X i) (d.DI i) (d.DO i)
 fa:∀ i,i < d.n->∀ g o,(X i).a=some ⟨g,o,none⟩->base<=g/\g ≠ b/\g ≠ s/\(Value.slice a d.n cap).ownBlock ≠ some g/\TyI w g
 fb:∀ i,i < d.n->∀ g o,(X i).b=some ⟨g,o,none⟩->base<=g/\g ≠ b/\g ≠ s/\(Value.slice a d.n cap).ownBlock ≠ some g/\TyI w g
 hb:base<=b
 hs:base<=s
 ok:d.ok
 ldb:LDb base w
structure DkCh (base:Nat) (w w':World):Prop where
 low:Below base w w'
 typ:∀ (g:Nat) (cs:Array Value) (t:TypeId) (fz:Nat × Nat),w.heap[g]?=some (Obj.cells cs t fz)->t ≠ 64->t ≠ 88->t ≠ 78->w'.heap[g]?=some (Obj.cells cs t fz)
theorem DkCh.trans {base:Nat} {w w1 w2:World} (h:DkCh base w w1) (g:DkCh base w1 w2):DkCh base w w2:=⟨h.low.trans g.low,fun k cs t fz hk h1 h2 h3=>g.typ k cs t fz (h.typ k cs t fz hk h1 h2 h3) h1 h2 h3⟩
theorem DkCh.ofBelow {base:Nat} {w w':World} (h:Below w.heap.size w w') (hb:base<=w.heap.size):DkCh base w w':=⟨h.mono hb,fun k _ _ _ hk _ _ _=>(h.block k (Array.getElem?_eq_some_iff.1 hk).1).trans hk⟩
theorem DkCh.ofKeeps {base s:Nat} {w w':World} {T:List UInt8} {room sy:Int} (h:Keeps s w w') (hs:base<=s) (hb:base<=w.heap.size) (st:StoAt w s T room sy):DkCh base w w':=by
 refine ⟨h.below (Below.refl base w) hs hb,fun k cs t fz hk _ h2 _=>(h.block k (Array.getElem?_eq_some_iff.1 hk).1 (fun e=>?_)).trans hk⟩
 subst e
 obtain ⟨c,g1,_⟩:=st
 rw [g1] at hk
 cases hk
 exact h2 rfl
variable {base:Nat} {w w':World} {b s:Nat} {d:Dsk} {a:Option Addr} {cap:Nat} {X:Nat->Exm}
theorem DkIn.ne (h:DkIn base w b s d a cap X):b ≠ s:=fun e=>by
 obtain ⟨c,g1,_⟩:=h.row
 obtain ⟨c2,g2,_⟩:=h.st
 rw [e,g2] at g1
 cases g1
theorem DkIn.ld (h:DkIn base w b s d a cap X):LD w:=h.ldb.out
theorem DkIn.lt (h:DkIn base w b s d a cap X):base<=w.heap.size:=Nat.le_trans h.hb (Nat.le_of_lt h.row.lt)
theorem DkIn.cells (h:DkIn base w b s d a cap X):BoxC w b d.c/\w.cell? ⟨b,11,none⟩=some (.slice a d.n cap)/\w.cell? ⟨b,12,none⟩=some (.pointer (some ⟨s,0,none⟩)) :=
 ⟨⟨h.row.cell (i:=0) (by omega),h.row.cell (i:=1) (by omega),h.row.cell (i:=2) (by omega),h.row.cell (i:=3) (by omega),h.row.cell (i:=4) (by omega),h.row.cell (i:=5) (by omega),h.row.cell (i:=6) (by omega),h.row.cell (i:=7) (by omega),h.row.cell (i:=8) (by omega),h.row.cell (i:=9) (by omega),h.row.cell (i:=10) (by omega)⟩,h.row.cell (i:=11) (by omega),h.row.cell (i:=12) (by omega)⟩
theorem OwnE.ownNe {v:Value} {n:Nat} (h:OwnE base w v n X) {g:Nat} (hg:v.ownBlock=some g):base<=g/\∃ cs,w.heap[g]?=some (.cells cs 78 (0,0)):=by
 rcases h.2 with ⟨rfl,_⟩ | ⟨g',cp,cur,rfl,hg',hh,_⟩
 ·simp [Value.ownBlock] at hg
 ·simp [Value.ownBlock] at hg; subst hg; exact ⟨hg',_,hh⟩
theorem DkIn.ownb (h:DkIn base w b s d a cap X) {g:Nat} (hg:(Value.slice a d.n cap).ownBlock=some g):base<=g/\g ≠ b/\g ≠ s/\g < w.heap.size:=by
 obtain ⟨h1,cs,h2⟩:=h.own.ownNe hg
 refine ⟨h1,fun e=>?_,fun e=>?_,(Array.getElem?_eq_some_iff.1 h2).1⟩
 ·obtain ⟨c,g1,_⟩:=h.row
  rw [← e,h2] at g1
  cases g1
 ·obtain ⟨c,g1,_⟩:=h.st
  rw [← e,h2] at g1
  cases g1
theorem OwnE.exs {base:Nat} {w:World} {v:Value} {n:Nat} {X:Nat->Exm} {DI DO:Nat->List Int} (h:OwnE base w v n X) (hin:∀ i,i < n->InEx w (X i) (DI i) (DO i)):∃ a c,v=.slice a n c/\Exs w a n c X DI DO:=by
 obtain ⟨hl,h2⟩:=h
 rcases h2 with ⟨rfl,rfl⟩ | ⟨g,cap,cur,rfl,_,hh,hle,_,hsz,hcur⟩
 ·exact ⟨none,0,rfl,nr,.inl rfl⟩
 ·refine ⟨_,cap,rfl,hle,.inr ⟨g,0,rfl,(Array.getElem?_eq_some_iff.1 hh).1,fun i hi=>?_⟩⟩
  have hc:∀ j,j < n * 2->w.cell? ⟨g,0+j,none⟩=(stCells X n)[j]?:=fun j hj=>by
   rw [← hcur,List.getElem?_take_of_lt hj]
   simp [World.cell?,hh]
  have g2:=stCells_at X hi
  refine ⟨(hc (i * 2) (by omega)).trans g2.1,?_,hin i hi⟩
  have:=hc (i * 2+1) (by omega)
  rw [← Nat.add_assoc] at this
  exact this.trans g2.2
theorem DkIn.exs (h:DkIn base w b s d a cap X):Exs w a d.n cap X d.DI d.DO:=by
 obtain ⟨a',c',e,hx⟩:=h.own.exs h.ex
 cases e
 exact hx
theorem DkIn.kept (h:DkIn base w b s d a cap X) (hsz:w.heap.size<=w'.heap.size) (hk:∀ k,k < w.heap.size->k ≠ s->w'.heap[k]?=w.heap[k]?) {T':List UInt8} {sy':Nat} (st:StoAt w' s T' 4096 sy') (hok:Dsk.ok { d with T:=T',sy:=sy' }) (hL:LDb base w'):DkIn base w' b s { d with T:=T',sy:=sy' } a cap X:=by
 have hne:=h.ne
 have kept:∀ (aa:Option Addr) (n c:Nat) (xs:List Int),Lst w aa n c xs->(∀ g o,aa=some ⟨g,o,none⟩->base<=g/\g ≠ b/\g ≠ s/\(Value.slice a d.n cap).ownBlock ≠ some g/\TyI w g)->Lst w' aa n c xs:=fun aa n c xs hl hf=>by
  refine ⟨hl.1,hl.2.1,?_⟩
  rcases hl.2.2 with h0 | ⟨g,off,e,hs',hc⟩
  ·exact .inl h0
  ·exact .inr ⟨g,off,e,Nat.lt_of_lt_of_le hs' hsz,fun i hi=>(World.cell?_of_block (a:=⟨g,off+i,none⟩) (hk g hs' (hf g off e).2.2.1)).trans (hc i hi)⟩
 refine ⟨h.row.of_block (hk b h.row.lt hne),st,⟨h.own.1,?_⟩,fun i hi=>⟨kept _ _ _ _ (h.ex i hi).i (h.fa i hi),kept _ _ _ _ (h.ex i hi).o (h.fb i hi)⟩,fun i hi g o e=>⟨(h.fa i hi g o e).1,(h.fa i hi g o e).2.1,(h.fa i hi g o e).2.2.1,(h.fa i hi g o e).2.2.2.1,(h.fa i hi g o e).2.2.2.2.of (hk g (h.fa i hi g o e).2.2.2.2.lt (h.fa i hi g o e).2.2.1)⟩,fun i hi g o e=>⟨(h.fb i hi g o e).1,(h.fb i hi g o e).2.1,(h.fb i hi g o e).2.2.1,(h.fb i hi g o e).2.2.2.1,(h.fb i hi g o e).2.2.2.2.of (hk g (h.fb i hi g o e).2.2.2.2.lt (h.fb i hi g o e).2.2.1)⟩,h.hb,h.hs,hok,hL⟩
 rcases h.own.2 with h0 | ⟨g,cp,cur,hv,hg,hh,r⟩
 ·exact .inl h0
 ·refine .inr ⟨g,cp,cur,hv,hg,?_,r⟩
  rw [hk g (Array.getElem?_eq_some_iff.1 hh).1 (h.ownb (by rw [hv]; rfl)).2.2.1]
  exact hh
theorem DkIn.below (h:DkIn base w b s d a cap X) (hb:Below w.heap.size w w'):DkIn base w' b s d a cap X :=
 h.kept hb.size (fun k hk _=>hb.block k hk) (h.st.below hb) h.ok (h.ldb.low (hb.mono h.lt))
theorem DkIn.keeps (h:DkIn base w b s d a cap X) (hk:Keeps s w w') {T':List UInt8} {sy':Nat} (st:StoAt w' s T' 4096 sy') (hok:Dsk.ok { d with T:=T',sy:=sy' }):DkIn base w' b s { d with T:=T',sy:=sy' } a cap X :=
 h.kept hk.size (fun k hk1 hk2=>hk.block k hk1 hk2) st hok (h.ldb.low (hk.below (Below.refl base w) h.hs h.lt))
def DoR (base b s:Nat) (w:World) (o:Out) (e:Ending) (w':World):Prop:=e=.returned (.tuple #[.string ⟨o.told.toArray⟩,.int .i64 o.e])/\(∃ a cap X,DkIn base w' b s o.d a cap X)/\DkCh base w w'
end
section
variable {base:Nat} {w w':World} {b s:Nat} {d:Dsk} {a:Option Addr} {cap:Nat} {X:Nat->Exm}
theorem Zcf (h:DkIn base w b s d a cap X):Calls Tryz.prog 57 #[.pointer (some ⟨b,0,none⟩)] w fun e w'=>e=.returned (.int .i64 d.k)/\Below w.heap.size w w':=by
 have RC:=Lib.hid (records_calls s d.T 4096 d.sy (by have:=h.ok.T; omega) w h.st h.ld)
 have c12:=h.cells.2.2
 have HKD:Hid (d.k=(begL d.T).length):=rfl
 go_enter Tryz.func57,Tryz.ntmps57
 go_wp2_with fail
 refine RC.out.mono ?_
 rintro e w1 ⟨⟨ls,a1,c1,R,hB,_,_,_,rfl⟩,hw1⟩
 have HK:Hid (d.k=ls.length):=by show _=_; rw [HKD.out,begL_of hB]
 clear hB RC
 go_wp2_with fail
 go_ret
 exact ⟨by rw [HK.out]; rfl,hw1⟩
theorem dNum_d (n e0:Int) (d:Dsk):(dNum n e0 d).d=d:=by unfold dNum; split <;> rfl
theorem ZbL (n e0:Int) (h0:-9223372036854775808<=n) (h1:n<=9223372036854775807) (d:Dsk) (w:World) (hL:LD w) :
  Calls Tryz.prog 35 #[.int .i64 n,.int .i64 e0] w fun e w'=>e=.returned (.tuple #[.string ⟨(dNum n e0 d).told.toArray⟩,.int .i64 (dNum n e0 d).e])/\Below w.heap.size w w':=by
 by_cases he:e0=0
 ·subst he
  have HI:=ZaC n h0 h1 w hL
  have HD:Hid (dNum n 0 d=⟨Lib.itoa n,0,d⟩):=if_pos rfl
  rw [HD.out]
  obtain ⟨Z,HZ⟩:=nm ((⟨(Lib.itoa n).toArray⟩:ByteArray))
  dsimp only
  rw [HZ.out] at HI
  rw [HZ.out]
  go_enter Tryz.func35,Tryz.ntmps35
  go_wp2_with fail
  refine HI.mono ?_
  rintro e w1 ⟨rfl,hw1⟩
  go_wp2_with fail
  go_ret2
  exact ⟨rfl,hw1⟩
 ·have HD:Hid (dNum n e0 d=⟨[],e0,d⟩):=if_neg he
  have k1:(e0 == 0)=false:=by rw [beq_eq_false_iff_ne]; exact he
  rw [HD.out]
  go_enter Tryz.func35,Tryz.ntmps35
  go_wp2_with fail
  go_ret2
  exact ⟨rfl,br⟩
theorem newDesk_calls (w:World) (hL:LD w):Calls Tryz.prog 15 #[] w fun e w'=>∃ b s X,e=.returned (.pointer (some ⟨b,0,none⟩))/\DkIn w.heap.size w' b s d0 none 0 X/\Below w.heap.size w w':=by
 have NG:=new_good 4096 (by omega) (by omega) w
 go_enter Tryz.func15,Tryz.ntmps15
 go_wp2_with (go_at_call 29; refine NG.mono ?_; rintro e w' ⟨rfl,rfl⟩)
 go_ret
 have B1:=Zac w (.cells #[.string ⟨#[]⟩,.int .i64 4096,.int .i64 0] 88)
 have B2:=B1.alloc B1.size (.cells #[.int .i64 1,.int .i64 1,.int .i64 1,.int .u64 1,.int .i64 1,.int .i64 3,.int .i64 6554,.int .i64 0,.int .i64 0,.int .i64 0,.int .i64 0] 50)
 have B3:=B2.alloc B2.size (.cells #[.int .i64 1,.int .i64 1,.int .i64 1,.int .u64 1,.int .i64 1,.int .i64 3,.int .i64 6554,.int .i64 0,.int .i64 0,.int .i64 0,.int .i64 0,.slice none 0 0,.pointer (some ⟨w.heap.size,0,none⟩)] 64)
 have R:=World.rowIs_alloc ((w.alloc (.cells #[.string ⟨#[]⟩,.int .i64 4096,.int .i64 0] 88)).alloc (.cells #[.int .i64 1,.int .i64 1,.int .i64 1,.int .u64 1,.int .i64 1,.int .i64 3,.int .i64 6554,.int .i64 0,.int .i64 0,.int .i64 0,.int .i64 0] 50)) #[.int .i64 1,.int .i64 1,.int .i64 1,.int .u64 1,.int .i64 1,.int .i64 3,.int .i64 6554,.int .i64 0,.int .i64 0,.int .i64 0,.int .i64 0,.slice none 0 0,.pointer (some ⟨w.heap.size,0,none⟩)] 64 (dcell d0.c (.slice none 0 0) (.pointer (some ⟨w.heap.size,0,none⟩))) (by
  intro i hi
  have hi':i < 13:=by simpa using hi
  rcases (show i=0\/i=1\/i=2\/i=3\/i=4\/i=5\/i=6\/i=7\/i=8\/i=9\/i=10\/i=11\/i=12 by omega) with rfl | rfl | rfl | rfl | rfl | rfl | rfl | rfl | rfl | rfl | rfl | rfl | rfl <;> rfl)
 rw [World.size_alloc,World.size_alloc] at R
 refine ⟨_,w.heap.size,noEx,rfl,⟨R,((StoAt.made w 4096).below (Zac _ _)).below (Zac _ _),World.ownsRow_nil _ _ _ _,fun i hi=>absurd hi (Nat.not_lt_zero _),fun i hi=>absurd hi (Nat.not_lt_zero _),fun i hi=>absurd hi (Nat.not_lt_zero _),by omega,nr,d0_ok,⟨w,hL,nr,B3⟩⟩,B3⟩
theorem cfgOf_ok {z:List Int} (h:cfgI (cfgOf z)=0):cfgB (cfgOf z)=true:=by
 unfold cfgI at h
 by_cases e:cfgB (cfgOf z)=true
 ·exact e
 ·rw [if_neg e] at h; cases h
theorem DkIn.setB (h:DkIn base w b s d a cap X) (hsz:w.heap.size<=w'.heap.size) (hk:∀ k,k < w.heap.size->k ≠ b->w'.heap[k]?=w.heap[k]?) {c':Cfg} (row:w'.rowIs b 64 13 (dcell c' (.slice a d.n cap) (.pointer (some ⟨s,0,none⟩)))) (hok:Dsk.ok { d with c:=c' }) (hL:LDb base w'):DkIn base w' b s { d with c:=c' } a cap X:=by
 have hne:=h.ne
 have kept:∀ (aa:Option Addr) (n c:Nat) (xs:List Int),Lst w aa n c xs->(∀ g o,aa=some ⟨g,o,none⟩->base<=g/\g ≠ b/\g ≠ s/\(Value.slice a d.n cap).ownBlock ≠ some g/\TyI w g)->Lst w' aa n c xs:=fun aa n c xs hl hf=>by
  refine ⟨hl.1,hl.2.1,?_⟩
  rcases hl.2.2 with h0 | ⟨g,off,e,hs',hc⟩
  ·exact .inl h0
  ·exact .inr ⟨g,off,e,Nat.lt_of_lt_of_le hs' hsz,fun i hi=>(World.cell?_of_block (a:=⟨g,off+i,none⟩) (hk g hs' (hf g off e).2.1)).trans (hc i hi)⟩
 refine ⟨row,World.rowIs.of_block h.st (hk s h.st.lt (fun e=>hne e.symm)),⟨h.own.1,?_⟩,fun i hi=>⟨kept _ _ _ _ (h.ex i hi).i (h.fa i hi),kept _ _ _ _ (h.ex i hi).o (h.fb i hi)⟩,fun i hi g o e=>⟨(h.fa i hi g o e).1,(h.fa i hi g o e).2.1,(h.fa i hi g o e).2.2.1,(h.fa i hi g o e).2.2.2.1,(h.fa i hi g o e).2.2.2.2.of (hk g (h.fa i hi g o e).2.2.2.2.lt (h.fa i hi g o e).2.1)⟩,fun i hi g o e=>⟨(h.fb i hi g o e).1,(h.fb i hi g o e).2.1,(h.fb i hi g o e).2.2.1,(h.fb i hi g o e).2.2.2.1,(h.fb i hi g o e).2.2.2.2.of (hk g (h.fb i hi g o e).2.2.2.2.lt (h.fb i hi g o e).2.1)⟩,h.hb,h.hs,hok,hL⟩
 rcases h.own.2 with h0 | ⟨g,cp,cur,hv,hg,hh,r⟩
 ·exact .inl h0
 ·refine .inr ⟨g,cp,cur,hv,hg,?_,r⟩
  rw [hk g (Array.getElem?_eq_some_iff.1 hh).1 (h.ownb (by rw [hv]; rfl)).2.1]
  exact hh
def set11 (w:World) (b:Nat) (c:Cfg):World:=((((((((((w.setCell ⟨b,0,none⟩ (.int .i64 c.i)).setCell ⟨b,1,none⟩ (.int .i64 c.h)).setCell ⟨b,2,none⟩ (.int .i64 c.o)).setCell ⟨b,3,none⟩ (.int .u64 c.seed)).setCell ⟨b,4,none⟩ (.int .i64 c.batch)).setCell ⟨b,5,none⟩ (.int .i64 c.steps)).setCell ⟨b,6,none⟩ (.int .i64 c.rate)).setCell ⟨b,7,none⟩ (.int .i64 c.decay)).setCell ⟨b,8,none⟩ (.int .i64 c.how)).setCell ⟨b,9,none⟩ (.int .i64 c.keep)).setCell ⟨b,10,none⟩ (.int .i64 c.clip)
theorem set11_row {c c':Cfg} {v p:Value} {t:TypeId} (h:w.rowIs b t 13 (dcell c v p)):(set11 w b c').rowIs b t 13 (dcell c' v p):=by
 unfold set11
 refine ((((((((((((h.set 0 _).set 1 _).set 2 _).set 3 _).set 4 _).set 5 _).set 6 _).set 7 _).set 8 _).set 9 _).set 10 _)).congr (fun i hi=>?_)
 rcases (show i=0\/i=1\/i=2\/i=3\/i=4\/i=5\/i=6\/i=7\/i=8\/i=9\/i=10\/i=11\/i=12 by omega) with rfl | rfl | rfl | rfl | rfl | rfl | rfl | rfl | rfl | rfl | rfl | rfl | rfl <;> rfl
theorem set11_size (w:World) (b:Nat) (c:Cfg):(set11 w b c).heap.size=w.heap.size:=by unfold set11; simp only [World.size_setCell]
theorem Zcg (w:World) (b:Nat) (c:Cfg) (k:Nat) (hk:k ≠ b):(set11 w b c).heap[k]?=w.heap[k]?:=by
 unfold set11
 iterate 11 (refine (Go.Deep.blk_setCell_other _ _ _ k (by exact hk)).trans ?_)
 rfl
theorem Zbk {B:Nat} {W:World} (h:Below B W w) (hb:B<=b) (c:Cfg):Below B W (set11 w b c):=by
 unfold set11
 iterate 11 (refine Below.setCell (p:=⟨b,_,none⟩) ?_ hb _)
 exact h
theorem DkCh.setB {c:Cfg} {v p:Value} (h:w.rowIs b 64 13 (dcell c v p)) (hb:base<=b) (c':Cfg):DkCh base w (set11 w b c'):=by
 refine ⟨Zbk br hb c',fun k cs t fz hk h1 _ _=>(Zcg w b c' k (fun e=>?_)).trans hk⟩
 subst e
 obtain ⟨cc,g1,_⟩:=h
 rw [g1] at hk
 cases hk
 exact h1 rfl
theorem configure_calls (h:DkIn base w b s d a cap X) (gz:Nat) (z:List Int) (hz:Lst w (some ⟨gz,0,none⟩) 11 11 z) (hzb:∀ i,-10000000000 < z.getD i 0/\z.getD i 0 < 10000000000) :
  Calls Tryz.prog 33 #[.pointer (some ⟨b,0,none⟩),.slice (some ⟨gz,0,none⟩) 11 11] w fun e w'=>DoR base b s w (dConf z d) e w':=by
 obtain ⟨g',o',e',hlt,hc⟩:=hz.at (by omega)
 simp only [Option.some.injEq,Addr.mk.injEq,and_true] at e'
 obtain ⟨rfl,rfl⟩:=e'
 have z0:=hc 0 (by omega)
 have z1:=hc 1 (by omega)
 have z2:=hc 2 (by omega)
 have z3:=hc 3 (by omega)
 have z4:=hc 4 (by omega)
 have z5:=hc 5 (by omega)
 have z6:=hc 6 (by omega)
 have z7:=hc 7 (by omega)
 have z8:=hc 8 (by omega)
 have z9:=hc 9 (by omega)
 have z10:=hc 10 (by omega)
 simp only [Nat.zero_add] at z0 z1 z2 z3 z4 z5 z6 z7 z8 z9 z10
 have hb3:=hzb 3
 have HC:Hid (cfgOf z=⟨z.getD 0 0,z.getD 1 0,z.getD 2 0,max (z.getD 3 0) 0,z.getD 4 0,z.getD 5 0,z.getD 6 0,z.getD 7 0,z.getD 8 0,z.getD 9 0,z.getD 10 0⟩):=rfl
 have HD:Hid (dConf z d=if cfgI (cfgOf z)=0 then ⟨okA,0,{ d with c:=cfgOf z }⟩ else ⟨[],cfgI (cfgOf z),d⟩):=rfl
 generalize z.getD 0 0=y0 at *
 generalize z.getD 1 0=y1 at *
 generalize z.getD 2 0=y2 at *
 generalize z.getD 3 0=y3 at *
 generalize z.getD 4 0=y4 at *
 generalize z.getD 5 0=y5 at *
 generalize z.getD 6 0=y6 at *
 generalize z.getD 7 0=y7 at *
 generalize z.getD 8 0=y8 at *
 generalize z.getD 9 0=y9 at *
 generalize z.getD 10 0=y10 at *
 clear hc hzb hz
 have hle:w.heap.size<=w.heap.size:=nr
 have T0:Below w.heap.size w w:=br
 have KS:Hid (∀ q,Below w.heap.size w q->q.cell? ⟨gz,0,none⟩=some (.int .i64 y0)/\q.cell? ⟨gz,1,none⟩=some (.int .i64 y1)/\q.cell? ⟨gz,2,none⟩=some (.int .i64 y2)/\q.cell? ⟨gz,3,none⟩=some (.int .i64 y3)/\q.cell? ⟨gz,4,none⟩=some (.int .i64 y4)/\q.cell? ⟨gz,5,none⟩=some (.int .i64 y5)/\q.cell? ⟨gz,6,none⟩=some (.int .i64 y6)/\q.cell? ⟨gz,7,none⟩=some (.int .i64 y7)/\q.cell? ⟨gz,8,none⟩=some (.int .i64 y8)/\q.cell? ⟨gz,9,none⟩=some (.int .i64 y9)/\q.cell? ⟨gz,10,none⟩=some (.int .i64 y10)):=fun q hq=>⟨(hq.cell (p:=⟨gz,0,none⟩) hlt).trans z0,(hq.cell (p:=⟨gz,1,none⟩) hlt).trans z1,(hq.cell (p:=⟨gz,2,none⟩) hlt).trans z2,(hq.cell (p:=⟨gz,3,none⟩) hlt).trans z3,(hq.cell (p:=⟨gz,4,none⟩) hlt).trans z4,(hq.cell (p:=⟨gz,5,none⟩) hlt).trans z5,(hq.cell (p:=⟨gz,6,none⟩) hlt).trans z6,(hq.cell (p:=⟨gz,7,none⟩) hlt).trans z7,(hq.cell (p:=⟨gz,8,none⟩) hlt).trans z8,(hq.cell (p:=⟨gz,9,none⟩) hlt).trans z9,(hq.cell (p:=⟨gz,10,none⟩) hlt).trans z10⟩
 clear z0 z1 z2 z3 z4 z5 z6 z7 z8 z9 z10
 go_enter Tryz.func33,Tryz.ntmps33
 go_wp2_with fail
 refine wp_region_held_drew (S:=fun q=>q.cell? ⟨gz,0,none⟩=some (.int .i64 y0)/\q.cell? ⟨gz,1,none⟩=some (.int .i64 y1)/\q.cell? ⟨gz,2,none⟩=some (.int .i64 y2)/\q.cell? ⟨gz,3,none⟩=some (.int .i64 y3)/\q.cell? ⟨gz,4,none⟩=some (.int .i64 y4)/\q.cell? ⟨gz,5,none⟩=some (.int .i64 y5)/\q.cell? ⟨gz,6,none⟩=some (.int .i64 y6)/\q.cell? ⟨gz,7,none⟩=some (.int .i64 y7)/\q.cell? ⟨gz,8,none⟩=some (.int .i64 y8)/\q.cell? ⟨gz,9,none⟩=some (.int .i64 y9)/\q.cell? ⟨gz,10,none⟩=some (.int .i64 y10)) (by kernel_rfl) (by with_reducible exact (KS.out _ (Below.drew T0))) (fun hHeld=>?_)
 refine tk 0 (h:=?_)
 refine tk 1 (h:=?_)
 refine tk 2 (h:=?_)
 refine tk 3 (h:=?_)
 refine tk 4 (h:=?_)
 refine tk 5 (h:=?_)
 refine tk 6 (h:=?_)
 refine tk 7 (h:=?_)
 refine tk 8 (h:=?_)
 refine tk 9 (h:=?_)
 refine tk 10 (h:=?_)
 refine tk 11 (h:=?_)
 refine tk 12 (h:=?_)
 refine tk 13 (h:=?_)
 refine tk 14 (h:=?_)
 refine tk 15 (h:=?_)
 refine tk 16 (h:=?_)
 refine tk 17 (h:=?_)
 refine tk 18 (h:=?_)
 refine tk 19 (h:=?_)
 refine tk 20 (h:=?_)
 refine tk 21 (h:=?_)
 refine tk 22 (h:=?_)
 refine tk 23 (h:=?_)
 refine tk 24 (h:=?_)
 refine tk 25 (h:=?_)
 refine tk 26 (h:=?_)
 refine tk 27 (h:=?_)
 refine tk 28 (h:=?_)
 refine tk 29 (h:=?_)
 refine tk 30 (h:=?_)
 refine tk 31 (h:=?_)
 refine tk 32 (h:=?_)
 refine tk 33 (h:=?_)
 refine tk 34 (h:=?_)
 refine tk 35 (h:=?_)
 refine rd 36 (h:=fun K hK=>?_)
 clear hHeld
 go_simp
 refine hK.out _ _ ?_ (fun hHeld=>?_)
 ·with_reducible exact (KS.out _ (Below.drew (alS T0 hle)))
 clear hK K
 try simp only [Act.put,List.setIfInBounds_toArray,List.set_cons_zero,List.set_cons_succ]
 refine rd 37 (h:=fun K hK=>?_)
 clear hHeld
 go_simp
 refine hK.out _ _ ?_ (fun hHeld=>?_)
 ·with_reducible exact (KS.out _ (Below.drew (alS T0 hle)))
 clear hK K
 try simp only [Act.put,List.setIfInBounds_toArray,List.set_cons_zero,List.set_cons_succ]
 refine wpAnyH_done (by kernel_rfl) ?_ _
 have hw3:IntKind.u64.wrap (max y3 0)=max y3 0:=by rw [IntKind.wrap_u64]; omega
 rw [hw3]
 obtain ⟨C,HCC⟩:=nm (cfgOf z)
 have HC2:Hid (C=⟨y0,y1,y2,max y3 0,y4,y5,y6,y7,y8,y9,y10⟩):=by show _=_; rw [← HCC.out]; exact HC.out
 rw [HCC.out] at HD
 have TA:Below w.heap.size w (w.alloc (.cells C.cells 50)).drew:=Below.drew (alS T0 hle)
 have OC:=Zbb C (w.alloc (.cells C.cells 50)).drew
 have hbx:BoxC (w.alloc (.cells C.cells 50)).drew w.heap.size C:=boxC (B:=w.heap.size+1) (Below.drew br) (Nat.lt_succ_self _)
 have hdk:=h.below TA
 have hseed:0<=C.seed/\C.seed < 18446744073709551616:=by rw [HC2.out]; dsimp only; omega
 have hCC:(.cells #[.int .i64 y0,.int .i64 y1,.int .i64 y2,.int .u64 (max y3 0),.int .i64 y4,.int .i64 y5,.int .i64 y6,.int .i64 y7,.int .i64 y8,.int .i64 y9,.int .i64 y10] 50:Obj)=.cells C.cells 50:=by rw [HC2.out]; rfl
 rw [hCC]
 generalize (w.alloc (.cells C.cells 50)).drew=W1 at *
 clear KS
 have hW1:w.heap.size < W1.heap.size:=World.block_lt_of_cell? _ _ hbx.c0
 have KB:Hid (∀ q,Below W1.heap.size W1 q->BoxC q w.heap.size C):=fun q hq=>⟨(hq.cell (p:=⟨w.heap.size,0,none⟩) hW1).trans hbx.c0,(hq.cell (p:=⟨w.heap.size,1,none⟩) hW1).trans hbx.c1,(hq.cell (p:=⟨w.heap.size,2,none⟩) hW1).trans hbx.c2,(hq.cell (p:=⟨w.heap.size,3,none⟩) hW1).trans hbx.c3,(hq.cell (p:=⟨w.heap.size,4,none⟩) hW1).trans hbx.c4,(hq.cell (p:=⟨w.heap.size,5,none⟩) hW1).trans hbx.c5,(hq.cell (p:=⟨w.heap.size,6,none⟩) hW1).trans hbx.c6,(hq.cell (p:=⟨w.heap.size,7,none⟩) hW1).trans hbx.c7,(hq.cell (p:=⟨w.heap.size,8,none⟩) hW1).trans hbx.c8,(hq.cell (p:=⟨w.heap.size,9,none⟩) hW1).trans hbx.c9,(hq.cell (p:=⟨w.heap.size,10,none⟩) hW1).trans hbx.c10⟩
 obtain ⟨q0,q1,q2,q3,q4,q5,q6,q7,q8,q9,q10⟩:=hbx
 clear hCC HC HC2 hw3 hb3 hlt
 have hstep:=hdk
 by_cases hE:cfgI C=0
 ·rw [if_pos hE] at HD
  rw [hE] at OC
  have hok:Dsk.ok { d with c:=C }:=⟨cfgOf_ok (z:=z) (by rw [HCC.out]; exact hE) |> fun e=>by rw [HCC.out] at e; exact e,hseed,h.ok.n,h.ok.T,h.ok.sy⟩
  simp only [Cfg.val,Cfg.cells] at OC
  go_wp2_with (go_at_call 55; refine OC.mono ?_; rintro e w2 ⟨rfl,hw2⟩; have hdk2:=hdk.below hw2; obtain ⟨m0,m1,m2,m3,m4,m5,m6,m7,m8,m9,m10⟩:=KB.out _ hw2; obtain ⟨⟨n0,n1,n2,n3,n4,n5,n6,n7,n8,n9,n10⟩,_,_⟩:=hdk2.cells; have f0:=hdk2.row.frozen 0; have f1:=hdk2.row.frozen 1; have f2:=hdk2.row.frozen 2; have f3:=hdk2.row.frozen 3; have f4:=hdk2.row.frozen 4; have f5:=hdk2.row.frozen 5; have f6:=hdk2.row.frozen 6; have f7:=hdk2.row.frozen 7; have f8:=hdk2.row.frozen 8; have f9:=hdk2.row.frozen 9; have f10:=hdk2.row.frozen 10)
  go_ret2
  have hset:DkIn base (set11 w2 b C) b s { d with c:=C } a cap X:=hdk2.setB (by rw [set11_size]; exact nr) (fun k _ hk=>Zcg w2 b C k hk) (set11_row hdk2.row) hok (hdk2.ldb.low (Zbk (Below.refl base w2) hdk2.hb C))
  refine ⟨by rw [HD.out]; rfl,⟨a,cap,X,by rw [HD.out]; exact hset⟩,?_⟩
  exact ((DkCh.ofBelow TA h.lt).trans (DkCh.ofBelow hw2 hdk.lt)).trans (DkCh.setB hdk2.row hdk2.hb C)
 ·rw [if_neg hE] at HD
  obtain ⟨E,HEE⟩:=nm (cfgI C)
  rw [HEE.out] at OC hE HD
  have k1:(E == 0)=false:=by rw [beq_eq_false_iff_ne]; exact hE
  simp only [Cfg.val,Cfg.cells] at OC
  go_wp2_with (go_at_call 55; refine OC.mono ?_; rintro e w2 ⟨rfl,hw2⟩)
  go_ret2
  refine ⟨by rw [HD.out]; rfl,⟨a,cap,X,by rw [HD.out]; exact hdk.below hw2⟩,?_⟩
  exact (DkCh.ofBelow TA h.lt).trans (DkCh.ofBelow hw2 hdk.lt)
end
section
variable {base:Nat} {w w':World} {b s:Nat} {d:Dsk} {a:Option Addr} {cap:Nat} {X:Nat->Exm}
theorem others_at {bB:Nat} {cs:Array Value} {fz:Nat × Nat} (hB:w.heap[bB]?=some (.cells cs 38 fz)) (ho:Lib.OthersKept 5 (some bB) w w') (k:Nat) (cs2:Array Value) (t:TypeId) (fz2:Nat × Nat) (hk:w.heap[k]?=some (.cells cs2 t fz2)) (h1:t ≠ 38) (h2:t ≠ 5):w'.heap[k]?=w.heap[k]?:=by
 rw [hk]
 refine ho k _ hk (fun e=>?_) (fun c f e=>?_)
 ·cases e
  rw [hk] at hB
  cases hB
  exact h1 rfl
 ·cases e
  exact h2 rfl
theorem DkIn.others (h:DkIn base w b s d a cap X) {bB:Nat} {cs:Array Value} {fz:Nat × Nat} (hB:w.heap[bB]?=some (.cells cs 38 fz)) (hsz:w.heap.size<=w'.heap.size) (ho:Lib.OthersKept 5 (some bB) w w') (hL:LDb base w'):DkIn base w' b s d a cap X:=by
 have key:=others_at hB ho
 have tyk:∀ g,TyI w g->w'.heap[g]?=w.heap[g]?:=fun g hg=>by
  obtain ⟨c1,f1,e1⟩:=hg
  exact key g c1 _ f1 e1 (by decide) (by decide)
 have kept:∀ (aa:Option Addr) (n c:Nat) (xs:List Int),Lst w aa n c xs->(∀ g o,aa=some ⟨g,o,none⟩->base<=g/\g ≠ b/\g ≠ s/\(Value.slice a d.n cap).ownBlock ≠ some g/\TyI w g)->Lst w' aa n c xs:=fun aa n c xs hl hf=>by
  refine ⟨hl.1,hl.2.1,?_⟩
  rcases hl.2.2 with h0 | ⟨g,off,e,hs',hc⟩
  ·exact .inl h0
  ·exact .inr ⟨g,off,e,Nat.lt_of_lt_of_le hs' hsz,fun i hi=>(World.cell?_of_block (a:=⟨g,off+i,none⟩) (tyk g (hf g off e).2.2.2.2)).trans (hc i hi)⟩
 have kb:w'.heap[b]?=w.heap[b]?:=by
  obtain ⟨c,g1,_⟩:=h.row
  exact key b _ _ _ g1 (by decide) (by decide)
 have ks:w'.heap[s]?=w.heap[s]?:=by
  obtain ⟨c,g1,_⟩:=h.st
  exact key s _ _ _ g1 (by decide) (by decide)
 refine ⟨h.row.of_block kb,World.rowIs.of_block h.st ks,⟨h.own.1,?_⟩,fun i hi=>⟨kept _ _ _ _ (h.ex i hi).i (h.fa i hi),kept _ _ _ _ (h.ex i hi).o (h.fb i hi)⟩,fun i hi g o e=>⟨(h.fa i hi g o e).1,(h.fa i hi g o e).2.1,(h.fa i hi g o e).2.2.1,(h.fa i hi g o e).2.2.2.1,(h.fa i hi g o e).2.2.2.2.of (tyk g (h.fa i hi g o e).2.2.2.2)⟩,fun i hi g o e=>⟨(h.fb i hi g o e).1,(h.fb i hi g o e).2.1,(h.fb i hi g o e).2.2.1,(h.fb i hi g o e).2.2.2.1,(h.fb i hi g o e).2.2.2.2.of (tyk g (h.fb i hi g o e).2.2.2.2)⟩,h.hb,h.hs,h.ok,hL⟩
 rcases h.own.2 with h0 | ⟨g,cp,cur,hv,hg,hh,r⟩
 ·exact .inl h0
 ·refine .inr ⟨g,cp,cur,hv,hg,?_,r⟩
  rw [key g _ _ _ hh (by decide) (by decide)]
  exact hh
end
section
variable {base:Nat} {w w':World}
theorem builder_ch {B bB:Nat} {p:Value} {bs:List Value} (hc:DkCh base w w') (h:Lib.BuilderAtF 38 5 B bB p bs w):Lib.BuilderAtF 38 5 B bB p bs w':=by
 obtain ⟨hB,v,hb,hown,hne⟩:=h
 refine ⟨hB,v,hc.typ bB _ _ _ hb (by decide) (by decide) (by decide),⟨hown.1,?_⟩,hne⟩
 rcases hown.2 with hn | ⟨g,cap,cur,fz,hv,hbg,hg,rest⟩
 ·exact .inl hn
 ·exact .inr ⟨g,cap,cur,fz,hv,hbg,hc.typ g _ _ _ hg (by decide) (by decide) (by decide),rest⟩
theorem isBuilder_ch {B bB:Nat} {bs:List Value} (hc:DkCh base w w') (h:Lib.IsBuilderF 38 5 B bB bs w):Lib.IsBuilderF 38 5 B bB bs w':=h.elim (fun x=>.inl (builder_ch hc x)) (fun x=>.inr (builder_ch hc x))
theorem wstr_calls (B bB:Nat) (bs:List Value) (s:ByteArray) (w:World) (h:Lib.IsBuilderF 38 5 B bB bs w) (hlen:bs.length+s.size<=140737488355328) (hBw:B<=w.heap.size) :
  Calls Tryz.prog (ZbI.f 166) #[.pointer (some ⟨bB,0,none⟩),.string s] w fun e w'=>e=.returned (.tuple #[.int .i64 s.size,.nilIface])/\(Lib.BuilderAtF 38 5 B bB (.pointer (some ⟨bB,0,none⟩)) (bs ++ Lib.strCells s) w'/\Below B w w'/\Lib.OthersKept 5 (some bB) w w') :=
 Any.Builder_WriteString_k { laysJoin with } extraB B bB bs s w h hlen hBw
theorem bstr_calls (B bB:Nat) (l:List UInt8) (w:World) (h:Lib.IsBuilderF 38 5 B bB (Lib.byteCells l) w) (hBw:B<=w.heap.size) :
  Calls Tryz.prog (ZbI.f 169) #[.pointer (some ⟨bB,0,none⟩)] w fun e w'=>e=.returned (.string ⟨l.toArray⟩)/\(Lib.IsBuilderF 38 5 B bB (Lib.byteCells l) w'/\Below B w w') :=
 Any.Builder_String_any_f { laysJoin with } extraB B bB l w h hBw
end
end Go.Proofs.YthmiojmlaclgaaaGreatDoor.Fx
