/- What the law stands on: RefGrad. -/
import Derived.Test.YthmiojmlaclgaaaGreatDoorJ00
import Derived.Test.YthmiojmlaclgaaaGreatDoorJ14
import Derived.Deep.RegionLaw
import Derived.Deep.DeepCutAuto
import Derived.Deep.CutBlock
set_option maxRecDepth 100000
set_option maxHeartbeats 12800000
namespace Go.Proofs.YthmiojmlaclgaaaGreatDoor.Fx
open Go.RowKit
theorem Gr.still {wm:World} {G:Nat} {f:Nat->Value} {x y:Value} {Lx Ly:List Int} {w2 w3:World} (h:Gr wm G f x y Lx Ly w2) (hG:G < wm.heap.size) (h2:w2.grownBy w3 x.ownBlock):w3.rowIs G 102 8 f:=by
 refine h.row.of_block (h2.block G h.row.lt (fun e=>?_))
 rcases h.ox.blk with e2 | ⟨g,e2,hg,_⟩
 ·rw [e2] at e; cases e
 ·rw [e2] at e; cases e; omega
def grA (H I O:Nat) (x y:Value):Nat->Value:=fn8 (.int .i64 H) (.int .i64 I) (.slice none 0 0) (.int .i64 O) (.int .i64 H) x (.slice none 0 0) y
def grB (H I O:Nat) (x y x2 y2:Value):Nat->Value:=fn8 (.int .i64 H) (.int .i64 I) x (.int .i64 O) (.int .i64 H) x2 y y2
theorem rgrad_calls (I H O:Nat) (a1:Option Addr) (k1:Nat) (a2:Option Addr) (k2:Nat) (d1:Option Addr) (e1:Nat) (d2:Option Addr) (e2:Nat) (d:PD) (v:Option Addr) (cv:Nat) (xs:List Int) (u:Option Addr) (cu:Nat) (ys:List Int) (w:World) (h:InPup w (rpup I H O a1 k1 a2 k2 d1 e1 d2 e2) d) (hv:Lst w v I cv xs) (hu:Lst w u O cu ys) (i1:1<=I) (i2:I<=4) (j1:1<=H) (j2:H<=4) (o1:1<=O) (o2:O<=4) :
  Calls Tryz.prog 153 #[(rpup I H O a1 k1 a2 k2 d1 e1 d2 e2).val,.agg #[.slice v I cv,.slice u O cu]] w fun e w'=>∃ x1 t1 x2 t2 y1 s1 y2 s2,(∃ g1 g2 g3 g4,x1=some ⟨g1,0,none⟩/\x2=some ⟨g2,0,none⟩/\y1=some ⟨g3,0,none⟩/\y2=some ⟨g4,0,none⟩/\w.heap.size<=g1/\w.heap.size<=g2/\w.heap.size<=g3/\w.heap.size<=g4)/\e=.returned (rpup I H O x1 t1 x2 t2 y1 s1 y2 s2).val/\InPup w' (rpup I H O x1 t1 x2 t2 y1 s1 y2 s2) (graD d xs ys I H O)/\Below w.heap.size w w':=by
 have hal0:=Zac w (.cells (rpup I H O a1 k1 a2 k2 d1 e1 d2 e2).cells 102)
 have hal1:=hal0.alloc hal0.size (.cells #[.slice v I cv,.slice u O cu] 78)
 have hal:=hal1.alloc hal1.size (.cells #[.int .i64 0,.int .i64 0,.slice none 0 0,.int .i64 0,.int .i64 0,.slice none 0 0,.slice none 0 0,.slice none 0 0] 102)
 have hst:=ZaF ((w.alloc (.cells (rpup I H O a1 k1 a2 k2 d1 e1 d2 e2).cells 102)).alloc (.cells #[.slice v I cv,.slice u O cu] 78)) (.int .i64 0) (.int .i64 0) (.slice none 0 0) (.int .i64 0) (.int .i64 0) (.slice none 0 0) (.slice none 0 0) (.slice none 0 0) 102
 have hc0:=ZcR I H O a1 k1 a2 k2 d1 e1 d2 e2 d v cv xs _ (h.below hal nr) (hv.below hal nr) i2 j1 j2 o1 o2
 have HX2:Hid (∀ q,Below w.heap.size w q->Lst q a2 (O * H) k2 d.X2):=fun q hq=>(h.below hq nr).x2
 have HV:Hid (∀ q,Below w.heap.size w q->Lst q v I cv xs):=fun q hq=>hv.below hq nr
 have HU:Hid (∀ q,Below w.heap.size w q->Lst q u O cu ys):=fun q hq=>hu.below hq nr
 clear h hv hu hal0 hal1
 simp only [Pup.val,Pup.cells,rpup] at *
 simp at hst
 generalize hB:(((w.alloc (.cells #[.int .i64 H,.int .i64 I,.slice a1 (H * I) k1,.int .i64 O,.int .i64 H,.slice a2 (O * H) k2,.slice d1 H e1,.slice d2 O e2] 102)).alloc (.cells #[.slice v I cv,.slice u O cu] 78)).alloc (.cells #[.int .i64 0,.int .i64 0,.slice none 0 0,.int .i64 0,.int .i64 0,.slice none 0 0,.slice none 0 0,.slice none 0 0] 102))=W3 at hal hst hc0
 have hWs:W3.heap.size=w.heap.size+1+1+1:=by rw [← hB]; simp
 have KA:Hid (∀ q,Below W3.heap.size W3 q->Box8 q w.heap.size (.int .i64 H) (.int .i64 I) (.slice a1 (H * I) k1) (.int .i64 O) (.int .i64 H) (.slice a2 (O * H) k2) (.slice d1 H e1) (.slice d2 O e2)):=by
  intro q hq
  rw [hWs,← hB] at hq
  exact boxA (B:=w.heap.size+1) ((br.alloc (by simp) _).trans (hq.mono (by omega))) (by omega)
 have KE:Hid (∀ q,Below W3.heap.size W3 q->q.cell? ⟨w.heap.size+1,0,none⟩=some (.slice v I cv)/\q.cell? ⟨w.heap.size+1,1,none⟩=some (.slice u O cu)):=by
  intro q hq
  rw [hWs,← hB] at hq
  exact boxE (B:=w.heap.size+1+1) ((br.alloc (by simp) _).trans (hq.mono (by omega))) (by omega)
 have KR:Hid (∀ q,Below W3.heap.size W3 q->q.rowIs (w.heap.size+1+1) 102 8 (fn8 (.int .i64 0) (.int .i64 0) (.slice none 0 0) (.int .i64 0) (.int .i64 0) (.slice none 0 0) (.slice none 0 0) (.slice none 0 0))):=fun q hq=>Zbg hst hq (by omega)
 have KW:Hid (∀ q,Below W3.heap.size W3 q->Below w.heap.size w q):=fun q hq=>hal.trans (hq.mono hal.size)
 have HB:Hid ((((w.alloc (.cells #[.int .i64 H,.int .i64 I,.slice a1 (H * I) k1,.int .i64 O,.int .i64 H,.slice a2 (O * H) k2,.slice d1 H e1,.slice d2 O e2] 102)).alloc (.cells #[.slice v I cv,.slice u O cu] 78)).alloc (.cells #[.int .i64 0,.int .i64 0,.slice none 0 0,.int .i64 0,.int .i64 0,.slice none 0 0,.slice none 0 0,.slice none 0 0] 102))=W3):=hB
 clear hB hst hal
 have s1:=Zae j2 i2
 have s2:=Zae o2 j2
 go_enter Tryz.func153,Tryz.ntmps153
 go_wp2_with fail
 rw [HB.out]
 refine hc0.mono ?_
 rintro e w1 ⟨ah,ch,ay,cy,_,rfl,hh,hy,T1⟩
 obtain ⟨f0,f1,f2,f3,f4,f5,f6,f7⟩:=KA.out _ T1
 have hG1:=T1.size
 clear hc0
 go_wp2
 have hst:=ZaF w1 (.int .i64 H) (.int .i64 I) (.slice none 0 0) (.int .i64 O) (.int .i64 H) (.slice none 0 0) (.slice none 0 0) (.slice none 0 0) 102
 have hm0:=Zac w1 (.cells #[.int .i64 H,.int .i64 I,.slice none 0 0,.int .i64 O,.int .i64 H,.slice none 0 0,.slice none 0 0,.slice none 0 0] 102)
 have hms:(w1.alloc (.cells #[.int .i64 H,.int .i64 I,.slice none 0 0,.int .i64 O,.int .i64 H,.slice none 0 0,.slice none 0 0,.slice none 0 0] 102)).heap.size=w1.heap.size+1:=by simp
 generalize w1.alloc (.cells #[.int .i64 H,.int .i64 I,.slice none 0 0,.int .i64 O,.int .i64 H,.slice none 0 0,.slice none 0 0,.slice none 0 0] 102)=wm at hst hm0 hms ⊢
 have hGlt:w1.heap.size < wm.heap.size:=by omega
 have KL:Hid (∀ q,wm.grownBy q (some w1.heap.size)->Below w1.heap.size w1 q):=fun q hq=>hm0.grown hq hm0.size (fun k hk=>by simp at hk; omega)
 clear f0 f1 f2 f3 f4 f5 f6 f7 hm0
 go_loopw [8] (fun i wr=>∃ r:Nat,r<=O/\i=.int .i64 r/\∃ ax cx bx tx,Gr wm w1.heap.size (grA H I O (.slice ax (r * H) cx) (.slice bx r tx)) (.slice ax (r * H) cx) (.slice bx r tx) ((List.range (r * H)).map (outerG (difL d xs ys I H O) (hidL d xs I H) H)) ((List.range r).map (lessG (outYL d xs I H O) ys)) wr) (fun i _=>O - (intOf i).toNat)
 case atStart=>exact ⟨0,Nat.zero_le _,rfl,none,0,none,0,by rw [Nat.zero_mul]; exact ⟨hst,OwnI.nil _ _,OwnI.nil _ _,.inl rfl,World.grownBy.refl _ _⟩⟩
 case round =>
  obtain ⟨r,hr,rfl,ax,cx,bx,tx,hgr⟩:=hrel
  have hlow:=KL.out _ hgr.gr
  have Tr:=T1.trans (hlow.mono hG1)
  obtain ⟨f0,f1,f2,f3,f4,f5,f6,f7⟩:=KA.out _ Tr
  by_cases hlt:r < O
  ·obtain ⟨b1,o1',yv,rfl,sb1,c1,HY⟩:=hy.at1b hlow nr hlt
   obtain ⟨b2,o2',uv,rfl,sb2,c2,HUV⟩:=(HU.out _ (KW.out _ Tr)).at1 hlt
   obtain ⟨_,x1⟩:=KE.out _ Tr
   obtain ⟨g0,g1,g2,g3,g4,g5,g6,g7⟩:=Zag hgr.row
   have hszr:=hgr.gr.size
   have HD:Hid (lessG (outYL d xs I H O) ys r=subI yv uv):=by show subI _ _=_; rw [HY.out,HUV.out]
   have HD2:Hid ((difL d xs ys I H O).getD r 0=subI yv uv):=by
    show ((List.range O).map (lessG (outYL d xs I H O) ys)).getD r 0=_
    rw [Zbv _ _ _ hlt]; exact HD.out
   go_wp2
   go_quiet ((go_at_call 109; exact Calls.quiet_of_same (rsub_calls _ _ _)))
   generalize subI yv uv=dv at *
   have hg2:=(hgr.below ((Zab br nq:Below wr.heap.size wr (wr.drewN nq)).alloc (by simp) (.cells #[.int .i64 dv] 3))).swap
   go_wp2_with (at_builtin; refine ZaW (by rfl) _ _ (by rfl) wm.heap.size _ ((List.range r).map (lessG (outYL d xs I H O) ys)) dv _ (by rfl) (by rfl) (by exact hg2.ox) (by exact Zaf _ _ _) (by simp; omega) (by simp; omega) ?_; intro v1 w3 hown1 hgr1 hat1; obtain ⟨av1,cv1,hv1,_⟩:=hown1.lst' (n:=r+1) (by simp); subst hv1; have hrow3:=hg2.still hGlt hgr1; have q7:=(Zag hrow3).c7; have q7f:=hrow3.frozen 7)
   have hgr3:Gr wm w1.heap.size (grA H I O (.slice ax (r * H) cx) (.slice av1 (r+1) cv1)) (.slice ax (r * H) cx) (.slice av1 (r+1) cv1) ((List.range (r * H)).map (outerG (difL d xs ys I H O) (hidL d xs I H) H)) ((List.range (r+1)).map (lessG (outYL d xs I H O) ys)) (w3.setCell ⟨w1.heap.size,7,none⟩ (.slice av1 (r+1) cv1)) :=
    (hg2.push hGlt hown1 hgr1 hat1 7).swap.congr (fun i hi=>by rcases lt8 hi with rfl | rfl | rfl | rfl | rfl | rfl | rfl | rfl <;> rfl) rfl (Zay _ _ _ HD.out)
   generalize w3.setCell ⟨w1.heap.size,7,none⟩ (.slice av1 (r+1) cv1)=w4 at hgr3 ⊢
   clear hg2 hown1 hgr1 hat1 hrow3 q7 q7f g0 g1 g2 g3 g4 g5 g6 g7 x1 c1 c2 f0 f1 f2 f3 f4 f5 f6 f7 hlow Tr hgr hszr
   generalize hwr:wr=wo at *
   clear hwr
   go_loopw [10] (fun i wr=>∃ c:Nat,c<=H/\i=.int .i64 c/\∃ ax cx,Gr wm w1.heap.size (grA H I O (.slice ax (r * H+c) cx) (.slice av1 (r+1) cv1)) (.slice ax (r * H+c) cx) (.slice av1 (r+1) cv1) ((List.range (r * H+c)).map (outerG (difL d xs ys I H O) (hidL d xs I H) H)) ((List.range (r+1)).map (lessG (outYL d xs I H O) ys)) wr) (fun i _=>H - (intOf i).toNat)
   case atStart=>exact ⟨0,Nat.zero_le _,rfl,ax,cx,hgr3⟩
   case round =>
    obtain ⟨c,hc,rfl,ax,cx,hgr⟩:=hrel
    have hlow:=KL.out _ hgr.gr
    have Tr:=T1.trans (hlow.mono hG1)
    obtain ⟨f0,f1,f2,f3,f4,f5,f6,f7⟩:=KA.out _ Tr
    by_cases hlt2:c < H
    ·obtain ⟨b3,o3,hx,rfl,sb3,c3,HX⟩:=hh.at1b hlow nr hlt2
     obtain ⟨g0,g1,g2,g3,g4,g5,g6,g7⟩:=Zag hgr.row
     have g5f:=hgr.row.frozen 5
     have hszr:=hgr.gr.size
     have m1:(r+1) * H<=O * H:=Nat.mul_le_mul_right _ hlt
     have m2:(r+1) * H=r * H+H:=Nat.succ_mul _ _
     have m3:r * H+c+1<=16:=by omega
     have HZ:Hid (outerG (difL d xs ys I H O) (hidL d xs I H) H (r * H+c)=mulI dv hx):=by show outerG _ _ _ _=_; rw [outerG_at _ _ _ _ _ hlt2,HD2.out,HX.out]
     have hg2:=hgr.below (((Below.refl wr.heap.size wr).drew).alloc (by simp) (.cells #[.int .i64 (mulI dv hx)] 3))
     have d5:=(Zag (hgr.row.alloc (.cells #[.int .i64 (mulI dv hx)] 3))).c5
     have d3:=((Zac wr (.cells #[.int .i64 (mulI dv hx)] 3)).cell (p:=⟨b3,o3+c,none⟩) (by show b3 < wr.heap.size; have:=hlow.size; omega)).trans c3
     clear hgr3 m1 m2
     go_wp2
     go_region_law (first | (refine Zbn (by rfl) _ _ (by rfl) wm.heap.size _ ((List.range (r * H+c)).map (outerG (difL d xs ys I H O) (hidL d xs I H) H)) (mulI dv hx) wr.heap.size (by rfl) (by rfl) (by exact hg2.ox) (by exact Zaf _ _ _) (by simp; omega) (by simp; omega) ?_; intro v1 w2 hown1 hgr1 hat1; obtain ⟨av2,cv2,hv2,_⟩:=hown1.lst' (n:=r * H+c+1) (by simp); subst hv2; have hrow2:=hg2.still hGlt hgr1; have q5:=(Zag hrow2).c5; have q5f:=hrow2.frozen 5) | (go_simp; go_at_call 111; refine (Zbc _ _ _).mono ?_; rintro e w' ⟨rfl,rfl⟩))
     all_goals
      go_wp2
      go_roundw
      case rel=>exact ⟨c+1,by omega,by go_num,av2,cv2,(hg2.push hGlt hown1 hgr1 hat1 5).congr (fun i hi=>by rcases lt8 hi with rfl | rfl | rfl | rfl | rfl | rfl | rfl | rfl <;> rfl) (Zay _ _ _ HZ.out) rfl⟩
      case measure=>simp [intOf]; omega
    ·obtain rfl:c=H:=by omega
     go_wp2
     go_roundw
     case rel=>exact ⟨r+1,by omega,by go_num,ax,cx,av1,cv1,by rw [Nat.succ_mul]; exact hgr⟩
     case measure=>simp [intOf]; omega
  ·obtain rfl:r=O:=by omega
   obtain ⟨ga,rfl,hga,hla⟩:=hgr.ox.at (by simp) (Nat.mul_pos (by omega) (by omega))
   obtain ⟨gb,rfl,hgb,hlb⟩:=hgr.oy.at (by simp) (by omega)
   have hlb:Lst wr (some ⟨gb,0,none⟩) r tx (difL d xs ys I H r):=hlb
   have hrow5:=hgr.row
   generalize hwr:wr=w5 at *
   clear hwr
   have hG5:w1.heap.size < w5.heap.size:=hrow5.lt
   have KL2:Hid (∀ q,w5.grownBy q (some w1.heap.size)->Below w1.heap.size w1 q):=fun q hq=>hlow.grown hq hlow.size (fun k hk=>by simp at hk; omega)
   have HLB:Hid (∀ q,w5.grownBy q (some w1.heap.size)->Lst q (some ⟨gb,0,none⟩) r tx (difL d xs ys I H r)):=fun q hq=>hlb.grown hq (by omega)
   have HLA:Hid (∀ q,w5.grownBy q (some w1.heap.size)->Lst q (some ⟨ga,0,none⟩) (r * H) cx ((List.range (r * H)).map (outerG (difL d xs ys I H r) (hidL d xs I H) H))):=fun q hq=>hla.grown hq (by omega)
   have hrow6:w5.rowIs w1.heap.size 102 8 (grB H I r (.slice none 0 0) (.slice none 0 0) (.slice (some ⟨ga,0,none⟩) (r * H) cx) (.slice (some ⟨gb,0,none⟩) r tx)):=hrow5
   clear hgr hla hlb KL Tr hrow5 hst hlow
   go_wp2
   clear f0 f1 f2 f3 f4 f5 f6 f7
   go_loopw [11] (fun i wr=>∃ k:Nat,k<=H/\i=.int .i64 k/\∃ px cp py cq,Gr w5 w1.heap.size (grB H I r (.slice px (k * I) cp) (.slice py k cq) (.slice (some ⟨ga,0,none⟩) (r * H) cx) (.slice (some ⟨gb,0,none⟩) r tx)) (.slice px (k * I) cp) (.slice py k cq) ((List.range (k * I)).map (outerG (graL d xs ys I H r) xs I)) ((List.range k).map (graG d xs ys I H r)) wr) (fun i _=>H - (intOf i).toNat)
   case atStart=>exact ⟨0,Nat.zero_le _,rfl,none,0,none,0,by rw [Nat.zero_mul]; exact ⟨hrow6,OwnI.nil _ _,OwnI.nil _ _,.inl rfl,World.grownBy.refl _ _⟩⟩
   case round =>
    obtain ⟨k,hk,rfl,px,cp,py,cq,hgr⟩:=hrel
    have hlow:=KL2.out _ hgr.gr
    have Tr:=T1.trans (hlow.mono hG1)
    obtain ⟨f0,f1,f2,f3,f4,f5,f6,f7⟩:=KA.out _ Tr
    by_cases hlt2:k < H
    ·obtain ⟨b3,o3,hx,rfl,sb3,c3,HX⟩:=hh.at1b hlow nr hlt2
     go_upto_if 90 with fail
     go_cut [12] from 79 to 124 (fun n w2=>n=.int .i64 (graG d xs ys I H r k)/\Below wr.heap.size wr w2)
     case first =>
      by_cases hz:hx=0
      ·have hz':(hx != 0)=false:=by simpa using hz
       have HG:Hid (graG d xs ys I H r k=0):=by show (if (hidL d xs I H).getD k 0=0 then 0 else backG d.X2 (difL d xs ys I H r) r H k)=0; rw [HX.out]; exact if_pos hz
       clear hz
       go_wp2_with fail
       go_meet
       case rel=>exact ⟨by rw [HG.out],br⟩
      ·have hz':(hx != 0)=true:=by simpa using hz
       have HG:Hid (graG d xs ys I H r k=backG d.X2 (difL d xs ys I H r) r H k):=by show (if (hidL d xs I H).getD k 0=0 then 0 else backG d.X2 (difL d xs ys I H r) r H k)=_; rw [HX.out]; exact if_neg hz
       have g7:=(Zag hgr.row).c7
       have hx2r:=HX2.out _ (KW.out _ Tr)
       have hd0:Below wr.heap.size wr wr.drew:=br.drew
       have HS:Hid (∀ q,Below wr.heap.size wr q->q.cell? ⟨w.heap.size,3,none⟩=some (.int .i64 r)/\q.cell? ⟨w.heap.size,4,none⟩=some (.int .i64 H)/\q.cell? ⟨w.heap.size,5,none⟩=some (.slice a2 (r * H) k2)/\q.cell? ⟨w1.heap.size,7,none⟩=some (.slice (some ⟨gb,0,none⟩) r tx)):=by
        intro q hq
        have hb:=KA.out _ (Tr.trans (hq.mono Tr.size))
        exact ⟨hb.c3,hb.c4,hb.c5,(hq.cell (p:=⟨w1.heap.size,7,none⟩) hgr.row.lt).trans g7⟩
       have HLq:Hid (∀ q,Below wr.heap.size wr q->Lst q (some ⟨gb,0,none⟩) r tx (difL d xs ys I H r)):=fun q hq=>(HLB.out _ hgr.gr).below hq nr
       go_wp2_with fail
       go_region_held3 (fun q=>q.cell? ⟨w.heap.size,3,none⟩=some (.int .i64 r)/\q.cell? ⟨w.heap.size,4,none⟩=some (.int .i64 H)/\q.cell? ⟨w.heap.size,5,none⟩=some (.slice a2 (r * H) k2)/\q.cell? ⟨w1.heap.size,7,none⟩=some (.slice (some ⟨gb,0,none⟩) r tx)) (first | go_keep | exact HS.out _ T3 | exact HS.out _ T2)
        (first | (go_at_call 158; refine (rline_col r H k a2 k2 d.X2 _ (by exact hx2r.drew) o2 j2 hlt2).mono ?_; rintro e w2 ⟨la,ln,lc,rfl,hl,hw2⟩; have T2:=hd0.trans (hw2.mono hd0.size); have hln:r=ln:=(by rw [← hl.len]; exact (colL_long _ _ _ _).symm); subst hln) | (go_at_call 157; refine (rdot_calls _ _ _ _ _ _ _ _ hl (HLq.out _ T2) (by omega)).mono ?_; rintro e w3 ⟨rfl,nd,hw3⟩; have T3:Below wr.heap.size wr w3:=hw3 ▸ Zab T2 nd; clear hw3))
       all_goals
        go_wp2_with fail
        go_meet
        case rel=>exact ⟨by rw [HG.out]; rfl,T3⟩
     case rest =>
      obtain ⟨rfl,hwc⟩:=hcut
      have hgc:=hgr.below hwc
      generalize hwcc:wc=w6 at *
      clear hwcc hgr hlow Tr f0 f1 f2 f3 f4 f5 f6 f7 hwc c3
      generalize hwr:wr=wo at *
      clear hwr
      have HGL:Hid ((graL d xs ys I H r).getD k 0=graG d xs ys I H r k):=Zbv _ _ _ hlt2
      have HGK:Hid (graG d xs ys I H r k=graG d xs ys I H r k):=rfl
      obtain ⟨gk,HK⟩:=nm (graG d xs ys I H r k)
      rw [HK.out]
      obtain ⟨g0,g1,g2,g3,g4,g5,g6,g7⟩:=Zag hgc.row
      have hszr:=hgc.gr.size
      have hg2:=(hgc.below (Zac w6 (.cells #[.int .i64 gk] 3))).swap
      go_wp2_with (at_builtin; refine ZaW (by rfl) _ _ (by rfl) w5.heap.size _ ((List.range k).map (graG d xs ys I H r)) gk _ (by rfl) (by rfl) (by exact hg2.ox) (by exact Zaf _ _ _) (by simp; omega) (by simp; omega) ?_; intro v1 w3 hown1 hgr1 hat1; obtain ⟨av1,cv1,hv1,_⟩:=hown1.lst' (n:=k+1) (by simp); subst hv1; have hrow3:=hg2.still hG5 hgr1; have q6:=(Zag hrow3).c6; have q6f:=hrow3.frozen 6)
      have hgr3:Gr w5 w1.heap.size (grB H I r (.slice px (k * I) cp) (.slice av1 (k+1) cv1) (.slice (some ⟨ga,0,none⟩) (r * H) cx) (.slice (some ⟨gb,0,none⟩) r tx)) (.slice px (k * I) cp) (.slice av1 (k+1) cv1) ((List.range (k * I)).map (outerG (graL d xs ys I H r) xs I)) ((List.range (k+1)).map (graG d xs ys I H r)) (w3.setCell ⟨w1.heap.size,6,none⟩ (.slice av1 (k+1) cv1)) :=
       (hg2.push hG5 hown1 hgr1 hat1 6).swap.congr (fun i hi=>by rcases lt8 hi with rfl | rfl | rfl | rfl | rfl | rfl | rfl | rfl <;> rfl) rfl (Zay _ _ _ HK.out)
      generalize w3.setCell ⟨w1.heap.size,6,none⟩ (.slice av1 (k+1) cv1)=w7 at hgr3 ⊢
      clear hg2 hown1 hgr1 hat1 hrow3 q6 q6f g0 g1 g2 g3 g4 g5 g6 g7 hgc hszr
      go_loopw [13] (fun i wr=>∃ c:Nat,c<=I/\i=.int .i64 c/\∃ px cp,Gr w5 w1.heap.size (grB H I r (.slice px (k * I+c) cp) (.slice av1 (k+1) cv1) (.slice (some ⟨ga,0,none⟩) (r * H) cx) (.slice (some ⟨gb,0,none⟩) r tx)) (.slice px (k * I+c) cp) (.slice av1 (k+1) cv1) ((List.range (k * I+c)).map (outerG (graL d xs ys I H r) xs I)) ((List.range (k+1)).map (graG d xs ys I H r)) wr) (fun i _=>I - (intOf i).toNat)
      case atStart=>exact ⟨0,Nat.zero_le _,rfl,px,cp,hgr3⟩
      case round =>
       obtain ⟨c,hc,rfl,px,cp,hgr⟩:=hrel
       have hlow:=KL2.out _ hgr.gr
       have Tr:=T1.trans (hlow.mono hG1)
       obtain ⟨f0,f1,f2,f3,f4,f5,f6,f7⟩:=KA.out _ Tr
       by_cases hlt3:c < I
       ·obtain ⟨b4,o4,vx,rfl,sb4,c4,HVX⟩:=(HV.out _ (KW.out _ Tr)).at1 hlt3
        obtain ⟨x0,_⟩:=KE.out _ Tr
        obtain ⟨g0,g1,g2,g3,g4,g5,g6,g7⟩:=Zag hgr.row
        have g2f:=hgr.row.frozen 2
        have hszr:=hgr.gr.size
        have m1:(k+1) * I<=H * I:=Nat.mul_le_mul_right _ hlt2
        have m2:(k+1) * I=k * I+I:=Nat.succ_mul _ _
        have m3:k * I+c+1<=16:=by omega
        have HZ:Hid (outerG (graL d xs ys I H r) xs I (k * I+c)=mulI gk vx):=by show outerG _ _ _ _=_; rw [outerG_at _ _ _ _ _ hlt3,HGL.out,HK.out,HVX.out]
        have hg2:=hgr.below (((Below.refl wr.heap.size wr).drew).alloc (by simp) (.cells #[.int .i64 (mulI gk vx)] 3))
        have d2:=(Zag (hgr.row.alloc (.cells #[.int .i64 (mulI gk vx)] 3))).c2
        have d4:=((Zac wr (.cells #[.int .i64 (mulI gk vx)] 3)).cell (p:=⟨b4,o4+c,none⟩) (by show b4 < wr.heap.size; omega)).trans c4
        have d0:=((Zac wr (.cells #[.int .i64 (mulI gk vx)] 3)).cell (p:=⟨w.heap.size+1,0,none⟩) (by show w.heap.size+1 < wr.heap.size; have:=Tr.size; omega)).trans x0
        clear hgr3 m1 m2
        go_wp2
        go_region_law (first | (refine Zbn (by rfl) _ _ (by rfl) w5.heap.size _ ((List.range (k * I+c)).map (outerG (graL d xs ys I H r) xs I)) (mulI gk vx) wr.heap.size (by rfl) (by rfl) (by exact hg2.ox) (by exact Zaf _ _ _) (by simp; omega) (by simp; omega) ?_; intro v1 w2 hown1 hgr1 hat1; obtain ⟨av2,cv2,hv2,_⟩:=hown1.lst' (n:=k * I+c+1) (by simp); subst hv2; have hrow2:=hg2.still hG5 hgr1; have q2:=(Zag hrow2).c2; have q2f:=hrow2.frozen 2) | (go_simp; go_at_call 111; refine (Zbc _ _ _).mono ?_; rintro e w' ⟨rfl,rfl⟩))
        all_goals
         go_wp2
         go_roundw
         case rel=>exact ⟨c+1,by omega,by go_num,av2,cv2,(hg2.push hG5 hown1 hgr1 hat1 2).congr (fun i hi=>by rcases lt8 hi with rfl | rfl | rfl | rfl | rfl | rfl | rfl | rfl <;> rfl) (Zay _ _ _ HZ.out) rfl⟩
         case measure=>simp [intOf]; omega
       ·obtain rfl:c=I:=by omega
        go_wp2
        go_roundw
        case rel=>exact ⟨k+1,by omega,by go_num,px,cp,av1,cv1,by rw [Nat.succ_mul]; exact hgr⟩
        case measure=>simp [intOf]; omega
    ·obtain rfl:k=H:=by omega
     obtain ⟨gx,rfl,hgx,hlx⟩:=hgr.ox.at (by simp) (Nat.mul_pos (by omega) (by omega))
     obtain ⟨gy,rfl,hgy,hly⟩:=hgr.oy.at (by simp) (by omega)
     have hla9:=HLA.out _ hgr.gr
     have hlb9:=HLB.out _ hgr.gr
     obtain ⟨g0,g1,g2,g3,g4,g5,g6,g7⟩:=Zag hgr.row
     have hr9:=KR.out _ Tr
     obtain ⟨q0,q1,q2,q3,q4,q5,q6,q7⟩:=Zag hr9
     have t0:=hr9.frozen 0
     have t1:=hr9.frozen 1
     have t2:=hr9.frozen 2
     have t3:=hr9.frozen 3
     have t4:=hr9.frozen 4
     have t5:=hr9.frozen 5
     have t6:=hr9.frozen 6
     have t7:=hr9.frozen 7
     have hbw:=KW.out _ Tr
     clear HLA HLB KL2 hlow hrow6
     go_wp2
     have hq:=Zbm hr9 (.int .i64 k) (.int .i64 I) (.slice (some ⟨gx,0,none⟩) (k * I) cp) (.int .i64 r) (.int .i64 k) (.slice (some ⟨ga,0,none⟩) (r * k) cx) (.slice (some ⟨gy,0,none⟩) k cq) (.slice (some ⟨gb,0,none⟩) r tx)
     have hg8:=grown8 wr (w.heap.size+1+1) (.int .i64 k) (.int .i64 I) (.slice (some ⟨gx,0,none⟩) (k * I) cp) (.int .i64 r) (.int .i64 k) (.slice (some ⟨ga,0,none⟩) (r * k) cx) (.slice (some ⟨gy,0,none⟩) k cq) (.slice (some ⟨gb,0,none⟩) r tx)
     refine (fun (key:∀ wz:World,wz.rowIs (w.heap.size+1+1) 102 8 (fn8 (.int .i64 k) (.int .i64 I) (.slice (some ⟨gx,0,none⟩) (k * I) cp) (.int .i64 r) (.int .i64 k) (.slice (some ⟨ga,0,none⟩) (r * k) cx) (.slice (some ⟨gy,0,none⟩) k cq) (.slice (some ⟨gb,0,none⟩) r tx))->wr.grownBy wz (some (w.heap.size+1+1))->bodyPost Tryz.prog Tryz.f153 _ Exit.ret _ wz)=>key _ hq hg8) ?_
     clear hq hg8 hr9 q0 q1 q2 q3 q4 q5 q6 q7 g0 g1 g2 g3 g4 g5 g6 g7 t0 t1 t2 t3 t4 t5 t6 t7
     intro wz hq hg8
     obtain ⟨q0,q1,q2,q3,q4,q5,q6,q7⟩:=Zag hq
     refine bodyPost_ret (v:=(rpup I k r (some ⟨gx,0,none⟩) cp (some ⟨ga,0,none⟩) cx (some ⟨gy,0,none⟩) cq (some ⟨gb,0,none⟩) tx).val) (by simp [results,Tryz.results153,go_sem,rpup,Pup.val,Pup.cells,q0,q1,q2,q3,q4,q5,q6,q7]) rfl ⟨some ⟨gx,0,none⟩,cp,some ⟨ga,0,none⟩,cx,some ⟨gy,0,none⟩,cq,some ⟨gb,0,none⟩,tx,⟨gx,ga,gy,gb,rfl,rfl,rfl,rfl,by omega,by omega,by omega,by omega⟩,rfl,⟨?_,?_,?_,?_⟩,hbw.grown hg8 hbw.size (fun j hj=>by simp at hj; omega)⟩
     ·exact hlx.grown hg8 (by omega)
     ·exact hla9.grown hg8 (by omega)
     ·exact hly.grown hg8 (by omega)
     ·exact hlb9.grown hg8 (by omega)
end Go.Proofs.YthmiojmlaclgaaaGreatDoor.Fx
