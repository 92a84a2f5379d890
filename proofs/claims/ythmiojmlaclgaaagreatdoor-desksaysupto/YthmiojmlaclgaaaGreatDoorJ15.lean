/- What the law stands on: RefOptD. -/
import Derived.Test.YthmiojmlaclgaaaGreatDoorJ00
import Derived.Test.YthmiojmlaclgaaaGreatDoorJ13
import Derived.Test.YthmiojmlaclgaaaGreatDoorJ09
import Derived.Deep.RegionLaw
import Derived.Deep.DeepCutAuto
import Derived.Deep.CutBlock
set_option maxRecDepth 100000
set_option maxHeartbeats 12800000
namespace Go.Proofs.YthmiojmlaclgaaaGreatDoor.Fx
open Go.RowKit
theorem StBox.grown {w:World} {c:Cfg} {v0 v1:Value} {wr q:World} {G:Nat} (h:StBox w c v0 v1 wr) (hg:wr.grownBy q (some G)) (hG:w.heap.size+1+1 < G):StBox w c v0 v1 q:=by
 have l2:=h.res.lt
 have k:∀ {i:Nat} {v:Value},wr.cell? ⟨w.heap.size,i,none⟩=some v->q.cell? ⟨w.heap.size,i,none⟩=some v:=fun hc=>hg.cell hc (by simp; omega)
 exact ⟨⟨k h.cfg.c0,k h.cfg.c1,k h.cfg.c2,k h.cfg.c3,k h.cfg.c4,k h.cfg.c5,k h.cfg.c6,k h.cfg.c7,k h.cfg.c8,k h.cfg.c9,k h.cfg.c10⟩,
  h.st.of_block (hg.block _ (by omega) (by simp; omega)),h.res.of_block (hg.block _ l2 (by simp; omega)),h.bel.grown hg h.bel.size (fun k hk=>by simp at hk; omega)⟩
theorem rstepped_calls (c:Cfg) (a1:Option Addr) (k1:Nat) (a2:Option Addr) (k2:Nat) (a3:Option Addr) (k3 n:Nat) (ws ms gs:List Int) (rate:Int) (w:World) (l1:Lst w a1 n k1 ws) (l2:Lst w a2 n k2 ms) (l3:Lst w a3 n k3 gs) (h1:1<=n) (h2:n<=200) :
  Calls Tryz.prog 155 #[c.val,.agg #[.slice a1 n k1,.slice a2 n k2],.slice a3 n k3,.int .i64 rate] w fun e w'=>∃ ga d1 gb d2,e=.returned (.agg #[.slice (some ⟨ga,0,none⟩) n d1,.slice (some ⟨gb,0,none⟩) n d2])/\w.heap.size<=ga/\w.heap.size<=gb/\Lst w' (some ⟨ga,0,none⟩) n d1 ((List.range n).map (goneG c ws ms gs rate))/\Lst w' (some ⟨gb,0,none⟩) n d2 ((List.range n).map (keptG c ms gs))/\Below w.heap.size w w':=by
 have sb:=StBox.start w c (.slice a1 n k1) (.slice a2 n k2)
 obtain ⟨wm,hwm⟩:∃ q,q=(((w.alloc (.cells c.cells 50)).alloc (.cells #[.slice a1 n k1,.slice a2 n k2] 106)).alloc (.cells #[.slice none 0 0,.slice none 0 0] 106)).alloc (.cells #[.slice none 0 0,.slice none 0 0] 106):=⟨_,rfl⟩
 have sbm:StBox w c (.slice a1 n k1) (.slice a2 n k2) wm:=by rw [hwm]; exact sb.below (br.alloc nr _)
 have hrm:wm.rowIs (w.heap.size+1+1+1) 106 2 (fn2 (.slice none 0 0) (.slice none 0 0)):=by
  rw [hwm]
  have h:=Zaj (((w.alloc (.cells c.cells 50)).alloc (.cells #[.slice a1 n k1,.slice a2 n k2] 106)).alloc (.cells #[.slice none 0 0,.slice none 0 0] 106)) (.slice none 0 0) (.slice none 0 0) 106
  simpa using h
 have hGlt:w.heap.size+1+1+1 < wm.heap.size:=hrm.lt
 have KQ:Hid (∀ q,wm.grownBy q (some (w.heap.size+1+1+1))->StBox w c (.slice a1 n k1) (.slice a2 n k2) q):=fun q hq=>sbm.grown hq (by omega)
 have st0:Two wm (w.heap.size+1+1+1) (.slice none 0 0) (.slice none 0 0) [] [] wm:=⟨hrm,OwnI.nil _ _,OwnI.nil _ _,.inl rfl,World.grownBy.refl _ _⟩
 have HMV:Hid (∀ k,moveG c ms gs k=if c.how=1 then addI (mulI c.keep (ms.getD k 0)) (gs.getD k 0) else clampI (gs.getD k 0)):=fun k=>rfl
 have HKV:Hid (∀ k,keptG c ms gs k=if c.how=1 then moveG c ms gs k else ms.getD k 0):=fun k=>rfl
 have HGV:Hid (∀ k,goneG c ws ms gs rate k=subI (ws.getD k 0) (mulI rate (moveG c ms gs k))):=fun k=>rfl
 obtain ⟨GG,hGG⟩:∃ g,goneG c ws ms gs rate=g:=⟨_,rfl⟩
 obtain ⟨KK,hKK⟩:∃ g,keptG c ms gs=g:=⟨_,rfl⟩
 obtain ⟨MM,hMM⟩:∃ g,moveG c ms gs=g:=⟨_,rfl⟩
 rw [hGG] at HGV
 rw [hKK,hMM] at HKV
 rw [hMM] at HMV HGV
 rw [hGG,hKK]
 clear hGG hKK hMM sb sbm hrm
 have HW:Hid (wm=(((w.alloc (.cells c.cells 50)).alloc (.cells #[.slice a1 n k1,.slice a2 n k2] 106)).alloc (.cells #[.slice none 0 0,.slice none 0 0] 106)).alloc (.cells #[.slice none 0 0,.slice none 0 0] 106)):=hwm
 clear hwm
 obtain ⟨i,h,o,seed,batch,steps,crate,decay,how,keep,clip⟩:=c
 simp only [Cfg.val,Cfg.cells] at *
 go_enter Tryz.func155,Tryz.ntmps155
 go_wp2
 rw [← HW.out]
 clear HW
 go_loopw [10] (fun i wr=>∃ k:Nat,k<=n/\i=.int .i64 k/\∃ ax cx ay cy,Two wm (w.heap.size+1+1+1) (.slice ax k cx) (.slice ay k cy) ((List.range k).map GG) ((List.range k).map KK) wr) (fun i _=>n - (intOf i).toNat)
 case atStart=>exact ⟨0,Nat.zero_le _,rfl,none,0,none,0,st0⟩
 case round =>
  obtain ⟨k,hk,rfl,ax,cx,ay,cy,htw⟩:=hrel
  clear st0
  have sb:=KQ.out _ htw.gr
  by_cases hlt:k < n
  ·obtain ⟨b1,o1,wv,rfl,q1,e1,H1⟩:=l1.at1b sb.bel nr hlt
   obtain ⟨b2,o2,mv,rfl,q2,e2,H2⟩:=l2.at1b sb.bel nr hlt
   obtain ⟨b3,o3,gv,rfl,q3,e3,H3⟩:=l3.at1b sb.bel nr hlt
   have HMk:=HMV.out k
   have HKk:=HKV.out k
   have HGk:=HGV.out k
   rw [H2.out,H3.out] at HMk
   rw [H2.out] at HKk
   rw [H1.out] at HGk
   obtain ⟨M,hM⟩:∃ m,MM k=m:=⟨_,rfl⟩
   rw [hM] at HMk HKk HGk
   obtain ⟨V,hV⟩:∃ m,KK k=m:=⟨_,rfl⟩
   rw [hV] at HKk
   have HV:Hid (KK k=V):=hV
   have HG:Hid (GG k=subI wv (mulI rate M)):=HGk
   have HM1:Hid (M=if how=1 then addI (mulI keep mv) gv else clampI gv):=HMk
   have HV1:Hid (V=if how=1 then M else mv):=HKk
   clear HMk HKk HGk hM hV HMV HKV HGV
   have KC:Hid (∀ q,Two wm (w.heap.size+1+1+1) (.slice ax k cx) (.slice ay k cy) ((List.range k).map GG) ((List.range k).map KK) q->q.cell? ⟨b1,o1+k,none⟩=some (.int .i64 wv)/\q.cell? ⟨b2,o2+k,none⟩=some (.int .i64 mv)/\q.cell? ⟨b3,o3+k,none⟩=some (.int .i64 gv)):=fun q hq=>by
    have b:=(KQ.out _ hq.gr).bel
    have c:=sb.bel
    exact ⟨(b.cell (p:=⟨b1,o1+k,none⟩) q1).trans ((c.cell (p:=⟨b1,o1+k,none⟩) q1).symm.trans e1),(b.cell (p:=⟨b2,o2+k,none⟩) q2).trans ((c.cell (p:=⟨b2,o2+k,none⟩) q2).symm.trans e2),(b.cell (p:=⟨b3,o3+k,none⟩) q3).trans ((c.cell (p:=⟨b3,o3+k,none⟩) q3).symm.trans e3)⟩
   have ⟨⟨c0,c1,c2,c3,c4,c5,c6,c7,c8,c9,c10⟩,hs,hr,hb⟩:=sb
   dsimp only at c0 c1 c2 c3 c4 c5 c6 c7 c8 c9 c10
   obtain ⟨s0,s1⟩:=Zaa hs
   go_wp2_with fail
   go_quiet ((go_at_call 143; exact Calls.quiet_of_same (Zaq _ _)))
   have htw1:=htw.below (Zab br nq)
   clear htw sb hs hr hb c0 c1 c2 c3 c4 c5 c6 c7 c8 c9 c10 s0 s1 e1 e2 e3 l1 l2 l3
   generalize wr.drewN nq=wz at *
   have ⟨⟨c0,c1,c2,c3,c4,c5,c6,c7,c8,c9,c10⟩,hs,hr,hb⟩:=KQ.out _ htw1.gr
   dsimp only at c0 c1 c2 c3 c4 c5 c6 c7 c8 c9 c10
   obtain ⟨s0,s1⟩:=Zaa hs
   obtain ⟨e1,e2,e3⟩:=KC.out _ htw1
   go_upto_if 31 with fail
   go_cut [11,12] from 13 to 61 (fun m v w2=>m=.int .i64 M/\v=.int .i64 V/\Two wm (w.heap.size+1+1+1) (.slice ax k cx) (.slice ay k cy) ((List.range k).map GG) ((List.range k).map KK) w2)
   case first =>
    have HM2:=HM1.out
    have HV2:=HV1.out
    by_cases hw1:how=1
    ·rw [if_pos hw1] at HM2 HV2
     have hd:(how == 1)=true:=by simpa using hw1
     have HM3:Hid (M=addI (mulI keep mv) gv):=HM2
     have HV3:Hid (V=M):=HV2
     clear hw1 HM2 HV2
     go_wp2_with fail
     go_quiet ((first | (go_at_call 111; exact Calls.quiet_of_same (Zbc _ _ _)) | (go_at_call 110; exact Calls.quiet_of_same (Zbi _ _ _))))
     go_wp2_with fail
     go_meet
     case rel=>exact ⟨by rw [HM3.out],by rw [HV3.out,HM3.out],htw1.below (Zab br _)⟩
    ·rw [if_neg hw1] at HM2 HV2
     have hd:(how == 1)=false:=by simpa using hw1
     have HM3:Hid (M=clampI gv):=HM2
     have HV3:Hid (V=mv):=HV2
     clear hw1 HM2 HV2
     go_wp2_with fail
     go_meet
     case rel=>exact ⟨by rw [HM3.out],by rw [HV3.out],htw1⟩
   case rest =>
    obtain ⟨rfl,rfl,htw2⟩:=hcut
    clear htw1 c0 c1 c2 c3 c4 c5 c6 c7 c8 c9 c10 hs hr hb s0 s1 e1 e2 e3
    have ⟨⟨c0,c1,c2,c3,c4,c5,c6,c7,c8,c9,c10⟩,hs,hr,hb⟩:=KQ.out _ htw2.gr
    dsimp only at c0 c1 c2 c3 c4 c5 c6 c7 c8 c9 c10
    obtain ⟨s0,s1⟩:=Zaa hs
    obtain ⟨e1,e2,e3⟩:=KC.out _ htw2
    obtain ⟨g0,g1⟩:=Zaa htw2.row
    have g0f:=htw2.row.frozen 0
    have hsz2:=htw2.gr.size
    have hg2:=htw2.below (((Below.refl wc.heap.size wc).drew).alloc (by simp) (.cells #[.int .i64 (subI wv (mulI rate M))] 3))
    have d0:=(Zaa (htw2.row.alloc (.cells #[.int .i64 (subI wv (mulI rate M))] 3))).1
    clear HM1 HV1
    go_wp2_with fail
    go_region_law (first | (refine Zbn (by rfl) _ _ (by rfl) wm.heap.size _ ((List.range k).map GG) (subI wv (mulI rate M)) wc.heap.size (by rfl) (by rfl) (by exact hg2.ox) (by exact Zaf _ _ _) (by simp; omega) (by simp; omega) ?_; intro v1 w2 hown1 hgr1 hat1; obtain ⟨av2,cv2,hv2,_⟩:=hown1.lst' (n:=k+1) (by simp); subst hv2; have hrow2:=hg2.still hGlt hgr1; have q0:=(Zaa hrow2).1; have q0f:=hrow2.frozen 0) | (go_simp; go_at_call 111; refine (Zbc _ _ _).mono ?_; rintro e w' ⟨rfl,rfl⟩) | (go_simp; go_at_call 109; refine (rsub_calls _ _ _).mono ?_; rintro e w' ⟨rfl,rfl⟩))
    all_goals
     have htw3:=(hg2.push hGlt hown1 hgr1 hat1).congr (Zay GG k _ HG.out) rfl
     clear hown1 hgr1 hat1 hrow2 q0 q0f hg2 d0 g0 g1 g0f htw2 c0 c1 c2 c3 c4 c5 c6 c7 c8 c9 c10 hs hr hb s0 s1 e1 e2 e3
     generalize w2.setCell ⟨w.heap.size+1+1+1,0,none⟩ (.slice av2 (k+1) cv2)=w3 at htw3 ⊢
     obtain ⟨y0,y1⟩:=Zaa htw3.row
     have y1f:=htw3.row.frozen 1
     have hsz3:=htw3.gr.size
     have hg3:=htw3.below ((Below.refl w3.heap.size w3).alloc nr (.cells #[.int .i64 V] 3))
     go_wp2_with (at_builtin; refine ZaW (by rfl) _ _ (by rfl) wm.heap.size _ ((List.range k).map KK) V w3.heap.size (by rfl) (by rfl) (by exact hg3.oy) (by exact Zaf _ _ _) (by simp; omega) (by simp; omega) ?_; intro v3 w4 hown3 hgr3 hat3; obtain ⟨av4,cv4,hv4,_⟩:=hown3.lst' (n:=k+1) (by simp); subst hv4; have hrow4:=hg3.still' hGlt hgr3; have q1:=(Zaa hrow4).2; have q1f:=hrow4.frozen 1)
     go_roundw
     case rel=>exact ⟨k+1,by omega,by go_num,av2,cv2,av4,cv4,(hg3.push' hGlt hown3 hgr3 hat3).congr rfl (Zay KK k _ HV.out)⟩
     case measure=>simp [intOf]; omega
  ·obtain rfl:k=n:=by omega
   have ⟨_,_,hr,hb⟩:=sb
   obtain ⟨ga,rfl,hga,hla⟩:=htw.ox.at (by simp) (by omega)
   obtain ⟨gb,rfl,hgb,hlb⟩:=htw.oy.at (by simp) (by omega)
   obtain ⟨g0,g1⟩:=Zaa htw.row
   obtain ⟨r0,r1⟩:=Zaa hr
   have f0:=hr.frozen 0
   have f1:=hr.frozen 1
   go_wp2
   obtain ⟨q0,q1⟩:=Zaa (ZaB hr (.slice (some ⟨ga,0,none⟩) k cx) (.slice (some ⟨gb,0,none⟩) k cy))
   refine bodyPost_ret (v:=.agg #[.slice (some ⟨ga,0,none⟩) k cx,.slice (some ⟨gb,0,none⟩) k cy]) (by simp [results,Tryz.results155,go_sem,q0,q1]) rfl ⟨_,_,_,_,rfl,by omega,by omega,?_,?_,(hb.setCell (show w.heap.size<=w.heap.size+1+1 by omega) _).setCell (show w.heap.size<=w.heap.size+1+1 by omega) _⟩
   ·exact (hla.setFar (show ga ≠ w.heap.size+1+1 by omega) _).setFar (show ga ≠ w.heap.size+1+1 by omega) _
   ·exact (hlb.setFar (show gb ≠ w.heap.size+1+1 by omega) _).setFar (show gb ≠ w.heap.size+1+1 by omega) _
end Go.Proofs.YthmiojmlaclgaaaGreatDoor.Fx
