/- What the law stands on: DkL DkM0. -/
import Derived.Test.YthmiojmlaclgaaaGreatDoorJ00
import Derived.Test.YthmiojmlaclgaaaGreatDoorJ38
import Derived.Test.YthmiojmlaclgaaaGreatDoorJ35
import Derived.Test.YthmiojmlaclgaaaGreatDoorJ37
import Derived.Test.YthmiojmlaclgaaaGreatDoorJ28
set_option maxRecDepth 100000
set_option maxHeartbeats 12800000
namespace Go.Proofs.YthmiojmlaclgaaaGreatDoor.Fx
open Go.RowKit
section
variable {base:Nat} {w w':World} {b s:Nat} {d:Dsk} {a:Option Addr} {cap:Nat} {X:Nat->Exm}
theorem DkIn.drewN (h:DkIn base w b s d a cap X) (k:Nat):DkIn base (w.drewN k) b s d a cap X:=h.below (Zab br k)
theorem do_data (h:DkIn base w b s d a cap X) (al:Option Addr) (nl cl:Nat) (ws:List (List UInt8)) (hl:LstS w al nl cl ws) (hn1:1<=nl) (hn:nl<=70000) (hw:∀ i,(ws.getD i []).length<=70000) (hv:ws.headD []=[100,97,116,97]):Calls Tryz.prog 18 #[.pointer (some ⟨b,0,none⟩),.slice al nl cl] w fun e w'=>DoR base b s w (dStep d ws) e w':=by
 have hlen:=hl.len
 have hcap:=hl.cap
 have ehd:ws.headD []=ws.getD 0 []:=by cases ws <;> rfl
 obtain ⟨g0,o0,rfl,hg0,hcl⟩:=hl.at (by omega)
 have c0:=hcl 0 (by omega)
 clear hcl
 rw [Nat.add_zero] at c0
 obtain ⟨v,HVL⟩:=nm (ws.getD 0 [])
 rw [HVL.out] at c0 ehd
 obtain ⟨V,HV⟩:=nm ((⟨v.toArray⟩:ByteArray))
 have c0d:∀ k,(w.drewN k).cell? ⟨g0,o0,none⟩=some (.string ⟨v.toArray⟩):=fun _=>c0
 rw [ehd] at hv
 have e0:=hv
 have q0:(V.toList == [100,97,116,97])=true:=by rw [← HV.out]; exact (strEqL v [100,97,116,97]).trans (decide_eq_true e0)
 have HD:Hid (dStep d ws=dData (ws.drop 1) d):=by show _=_; unfold dStep; rw [ehd,if_pos hv]
 have HAE:Hid (∀ k aa,(1 < nl->aa=some ⟨g0,o0+1,none⟩)->Calls Tryz.prog 30 #[.pointer (some ⟨b,0,none⟩),.slice aa (nl - 1) (cl - 1)] (w.drewN k) fun e w'=>DoR base b s (w.drewN k) (dData (ws.drop 1) d) e w'):=fun k aa ha=>addExample_calls (h.drewN k) aa _ _ _ ((hl.below (Zab br k) nr).rest (by omega) aa ha) (by omega) (Zau hw 1)
 obtain ⟨rs,HRS⟩:=nm (ws.drop 1)
 rw [HRS.out] at HD HAE
 rw [HV.out] at c0d c0
 have n1:(1:Int)<=((nl:Nat):Int):=by omega
 have n2:((nl:Nat):Int)<=(cl:Int):=by omega
 have n3:(0:Int) < ((nl:Nat):Int):=by omega
 have n4:0 < nl:=by omega
 clear hw
 by_cases hc1:cl=1
 ·obtain rfl:nl=1:=by omega
  subst hc1
  go_enter Tryz.func18,Tryz.ntmps18
  go_wp2_with fail
  go_quiet (fail)
  go_wp2_with fail
  refine (HAE.out _ _ (fun hlt=>by omega)).mono ?_
  rintro e w1 ⟨rfl,hk,hc⟩
  go_wp2_with fail
  go_ret2
  exact ⟨by rw [HD.out]; rfl,by rw [HD.out]; exact hk,(DkCh.ofBelow (Zab br _) h.lt).trans hc⟩
 ·have n5:¬ cl=1:=hc1
  go_enter Tryz.func18,Tryz.ntmps18
  go_wp2_with fail
  go_quiet (fail)
  go_wp2_with fail
  refine (HAE.out _ _ (fun _=>rfl)).mono ?_
  rintro e w1 ⟨rfl,hk,hc⟩
  go_wp2_with fail
  go_ret2
  exact ⟨by rw [HD.out]; rfl,by rw [HD.out]; exact hk,(DkCh.ofBelow (Zab br _) h.lt).trans hc⟩
theorem do_alone (h:DkIn base w b s d a cap X) (al:Option Addr) (nl cl:Nat) (ws:List (List UInt8)) (hl:LstS w al nl cl ws) (hn1:1<=nl) (hn:nl<=70000) (hw:∀ i,(ws.getD i []).length<=70000) (hv:ws.headD [] ≠ [100,97,116,97]) (hr:ws.drop 1=[]):Calls Tryz.prog 18 #[.pointer (some ⟨b,0,none⟩),.slice al nl cl] w fun e w'=>DoR base b s w (dStep d ws) e w':=by
 have hlen:=hl.len
 have hcap:=hl.cap
 have ehd:ws.headD []=ws.getD 0 []:=by cases ws <;> rfl
 obtain ⟨g0,o0,rfl,hg0,hcl⟩:=hl.at (by omega)
 have c0:=hcl 0 (by omega)
 clear hcl
 rw [Nat.add_zero] at c0
 obtain ⟨v,HVL⟩:=nm (ws.getD 0 [])
 rw [HVL.out] at c0 ehd
 obtain ⟨V,HV⟩:=nm ((⟨v.toArray⟩:ByteArray))
 have c0d:∀ k,(w.drewN k).cell? ⟨g0,o0,none⟩=some (.string ⟨v.toArray⟩):=fun _=>c0
 rw [ehd] at hv
 have e0:=hv
 have q0:(V.toList == [100,97,116,97])=false:=by rw [← HV.out]; exact (strEqL v [100,97,116,97]).trans (decide_eq_false e0)
 have HD:Hid (dStep d ws=dAlone v d):=by show _=_; unfold dStep; rw [ehd,if_neg hv,if_pos hr]
 have hn2:nl=1:=by have:=congrArg List.length hr; rw [List.length_drop] at this; simp at this; omega
 subst hn2
 have HAL:Hid (∀ k,Calls Tryz.prog 31 #[.pointer (some ⟨b,0,none⟩),.string V] (w.drewN k) fun e w'=>DoR base b s (w.drewN k) (dAlone v d) e w'):=fun k=>by rw [← HV.out]; exact alone_calls (h.drewN k) v
 rw [HV.out] at c0d c0
 have n1:(1:Int)<=(1:Int):=by omega
 have n2:(1:Int)<=(cl:Int):=by omega
 have n3:(0:Int) < (1:Int):=by omega
 have n4:0 < 1:=by omega
 clear hw
 by_cases hc1:cl=1
 ·subst hc1
  go_enter Tryz.func18,Tryz.ntmps18
  go_wp2_with fail
  go_quiet (fail)
  go_wp2_with fail
  refine (HAL.out _).mono ?_
  rintro e w1 ⟨rfl,hk,hc⟩
  go_wp2_with fail
  go_ret2
  exact ⟨by rw [HD.out]; rfl,by rw [HD.out]; exact hk,(DkCh.ofBelow (Zab br _) h.lt).trans hc⟩
 ·have n5:¬ cl=1:=hc1
  go_enter Tryz.func18,Tryz.ntmps18
  go_wp2_with fail
  go_quiet (fail)
  go_wp2_with fail
  refine (HAL.out _).mono ?_
  rintro e w1 ⟨rfl,hk,hc⟩
  go_wp2_with fail
  go_ret2
  exact ⟨by rw [HD.out]; rfl,by rw [HD.out]; exact hk,(DkCh.ofBelow (Zab br _) h.lt).trans hc⟩
theorem do_nonum (h:DkIn base w b s d a cap X) (al:Option Addr) (nl cl:Nat) (ws:List (List UInt8)) (hl:LstS w al nl cl ws) (hn1:1<=nl) (hn:nl<=70000) (hw:∀ i,(ws.getD i []).length<=70000) (hv:ws.headD [] ≠ [100,97,116,97]) (hr:ws.drop 1 ≠ []) (hz:numsO (ws.drop 1)=none):Calls Tryz.prog 18 #[.pointer (some ⟨b,0,none⟩),.slice al nl cl] w fun e w'=>DoR base b s w (dStep d ws) e w':=by
 have hlen:=hl.len
 have hcap:=hl.cap
 have ehd:ws.headD []=ws.getD 0 []:=by cases ws <;> rfl
 obtain ⟨g0,o0,rfl,hg0,hcl⟩:=hl.at (by omega)
 have c0:=hcl 0 (by omega)
 clear hcl
 rw [Nat.add_zero] at c0
 obtain ⟨v,HVL⟩:=nm (ws.getD 0 [])
 rw [HVL.out] at c0 ehd
 obtain ⟨V,HV⟩:=nm ((⟨v.toArray⟩:ByteArray))
 have c0d:∀ k,(w.drewN k).cell? ⟨g0,o0,none⟩=some (.string ⟨v.toArray⟩):=fun _=>c0
 rw [ehd] at hv
 have e0:=hv
 have q0:(V.toList == [100,97,116,97])=false:=by rw [← HV.out]; exact (strEqL v [100,97,116,97]).trans (decide_eq_false e0)
 have hn2:2<=nl:=by
  cases ws with
  | nil=>simp at hr
  | cons x r =>
    cases r with
    | nil=>simp at hr
    | cons y r=>simp at hlen; omega
 have HD:Hid (dStep d ws=⟨[],3,d⟩):=by
  show _=_
  unfold dStep
  rw [ehd,if_neg hv,if_neg hr,hz]
 have hzl:True:=trivial
 have HNB:Hid (∀ k,Calls Tryz.prog 32 #[.slice (some ⟨g0,o0+1,none⟩) (nl - 1) (cl - 1)] (w.drewN k) fun e w'=>NumsR (ws.drop 1) (nl - 1) (w.drewN k) e w'/\Below (w.drewN k).heap.size (w.drewN k) w'):=fun k=>Zat _ _ _ _ _ ((hl.below (Zab br k) nr).rest (by omega) _ (fun _=>rfl)) (by omega) (Zau hw 1) (h.drewN k).ld
 obtain ⟨rs,HRS⟩:=nm (ws.drop 1)
 rw [HRS.out] at HNB hz
 rw [HV.out] at c0d c0
 have n1:(1:Int)<=(nl:Int):=by omega
 have n2:(nl:Int)<=(cl:Int):=by omega
 have n3:(0:Int) < (nl:Int):=by omega
 have n4:0 < nl:=by omega
 have n5:¬ cl=1:=by omega
 have n6:(((nl - 1:Nat):Int) == 0)=false:=by rw [beq_eq_false_iff_ne]; omega
 clear hw
 go_enter Tryz.func18,Tryz.ntmps18
 go_wp2_with fail
 go_quiet (fail)
 go_wp2_with fail
 refine (HNB.out _).mono ?_
 rintro e w1 ⟨hr1,hw1⟩
 have hd1:Below w.heap.size w w1:=(Zab br _).trans hw1
 rcases hr1 with ⟨z',hz',_⟩ | ⟨_,rfl⟩
 ·rw [hz] at hz'; cases hz'
 have h1:=h.below hd1
 go_wp2_with fail
 go_ret2
 exact ⟨by rw [HD.out]; rfl,⟨a,cap,X,by rw [HD.out]; exact h1⟩,DkCh.ofBelow hd1 h.lt⟩
theorem do_config (h:DkIn base w b s d a cap X) (al:Option Addr) (nl cl:Nat) (ws:List (List UInt8)) (hl:LstS w al nl cl ws) (hn1:1<=nl) (hn:nl<=70000) (hw:∀ i,(ws.getD i []).length<=70000) (hv:ws.headD [] ≠ [100,97,116,97]) (hr:ws.drop 1 ≠ []) (z:List Int) (hz:numsO (ws.drop 1)=some z) (e1:ws.headD []=[99,111,110,102,105,103]) (hzn:z.length=11):Calls Tryz.prog 18 #[.pointer (some ⟨b,0,none⟩),.slice al nl cl] w fun e w'=>DoR base b s w (dStep d ws) e w':=by
 have hlen:=hl.len
 have hcap:=hl.cap
 have ehd:ws.headD []=ws.getD 0 []:=by cases ws <;> rfl
 obtain ⟨g0,o0,rfl,hg0,hcl⟩:=hl.at (by omega)
 have c0:=hcl 0 (by omega)
 clear hcl
 rw [Nat.add_zero] at c0
 obtain ⟨v,HVL⟩:=nm (ws.getD 0 [])
 rw [HVL.out] at c0 ehd
 obtain ⟨V,HV⟩:=nm ((⟨v.toArray⟩:ByteArray))
 have c0d:∀ k,(w.drewN k).cell? ⟨g0,o0,none⟩=some (.string ⟨v.toArray⟩):=fun _=>c0
 rw [ehd] at hv
 have e0:=hv
 rw [ehd] at e1
 have q0:(V.toList == [100,97,116,97])=false:=by rw [← HV.out]; exact (strEqL v [100,97,116,97]).trans (decide_eq_false e0)
 have q1:(V.toList == [99,111,110,102,105,103])=true:=by rw [← HV.out]; exact (strEqL v [99,111,110,102,105,103]).trans (decide_eq_true e1)
 have hn2:2<=nl:=by
  cases ws with
  | nil=>simp at hr
  | cons x r =>
    cases r with
    | nil=>simp at hr
    | cons y r=>simp at hlen; omega
 have HD:Hid (dStep d ws=dConf z d):=by
  show _=_
  unfold dStep
  rw [ehd,if_neg hv,if_neg hr,hz]
  show dNums v z d=_
  unfold dNums
  rw [if_pos ⟨e1,hzn⟩]
 have hzl:z.length=nl - 1:=by rw [ZaL hz,List.length_drop]; omega
 have HNB:Hid (∀ k,Calls Tryz.prog 32 #[.slice (some ⟨g0,o0+1,none⟩) (nl - 1) (cl - 1)] (w.drewN k) fun e w'=>NumsR (ws.drop 1) (nl - 1) (w.drewN k) e w'/\Below (w.drewN k).heap.size (w.drewN k) w'):=fun k=>Zat _ _ _ _ _ ((hl.below (Zab br k) nr).rest (by omega) _ (fun _=>rfl)) (by omega) (Zau hw 1) (h.drewN k).ld
 obtain ⟨rs,HRS⟩:=nm (ws.drop 1)
 rw [HRS.out] at HNB hz
 obtain rfl:nl=12:=by omega
 have HZB:=Lib.hid (numsO_bd hz)
 simp only [Nat.reduceSub] at HNB
 rw [HV.out] at c0d c0
 have n2:(12:Int)<=(cl:Int):=by omega
 have n5:¬ cl=1:=by omega
 clear hw
 go_enter Tryz.func18,Tryz.ntmps18
 go_wp2_with fail
 go_quiet (fail)
 go_wp2_with fail
 refine (HNB.out _).mono ?_
 rintro e w1 ⟨hr1,hw1⟩
 have hd1:Below w.heap.size w w1:=(Zab br _).trans hw1
 rcases hr1 with ⟨z',hz',rfl,lz,hlt1,_⟩ | ⟨hz',_⟩
 rotate_left
 ·rw [hz] at hz'; cases hz'
 obtain rfl:z=z':=by rw [hz] at hz'; simpa using hz'
 clear hz'
 have h1:=h.below hd1
 go_wp2_with fail
 refine (configure_calls h1 _ z lz HZB.out).mono ?_
 rintro e w2 ⟨rfl,hk,hc⟩
 go_wp2_with fail
 go_ret2
 exact ⟨by rw [HD.out]; rfl,by rw [HD.out]; exact hk,(DkCh.ofBelow hd1 h.lt).trans hc⟩
theorem do_crash (h:DkIn base w b s d a cap X) (al:Option Addr) (nl cl:Nat) (ws:List (List UInt8)) (hl:LstS w al nl cl ws) (hn1:1<=nl) (hn:nl<=70000) (hw:∀ i,(ws.getD i []).length<=70000) (hv:ws.headD [] ≠ [100,97,116,97]) (hr:ws.drop 1 ≠ []) (z:List Int) (hz:numsO (ws.drop 1)=some z) (e1:ws.headD [] ≠ [99,111,110,102,105,103]) (e2:ws.headD []=[99,114,97,115,104]) (hzn:z.length=1):Calls Tryz.prog 18 #[.pointer (some ⟨b,0,none⟩),.slice al nl cl] w fun e w'=>DoR base b s w (dStep d ws) e w':=by
 have hlen:=hl.len
 have hcap:=hl.cap
 have ehd:ws.headD []=ws.getD 0 []:=by cases ws <;> rfl
 obtain ⟨g0,o0,rfl,hg0,hcl⟩:=hl.at (by omega)
 have c0:=hcl 0 (by omega)
 clear hcl
 rw [Nat.add_zero] at c0
 obtain ⟨v,HVL⟩:=nm (ws.getD 0 [])
 rw [HVL.out] at c0 ehd
 obtain ⟨V,HV⟩:=nm ((⟨v.toArray⟩:ByteArray))
 have c0d:∀ k,(w.drewN k).cell? ⟨g0,o0,none⟩=some (.string ⟨v.toArray⟩):=fun _=>c0
 rw [ehd] at hv
 have e0:=hv
 rw [ehd] at e1 e2
 have q0:(V.toList == [100,97,116,97])=false:=by rw [← HV.out]; exact (strEqL v [100,97,116,97]).trans (decide_eq_false e0)
 have q1:(V.toList == [99,111,110,102,105,103])=false:=by rw [← HV.out]; exact (strEqL v [99,111,110,102,105,103]).trans (decide_eq_false e1)
 have q2:(V.toList == [99,114,97,115,104])=true:=by rw [← HV.out]; exact (strEqL v [99,114,97,115,104]).trans (decide_eq_true e2)
 have hn2:2<=nl:=by
  cases ws with
  | nil=>simp at hr
  | cons x r =>
    cases r with
    | nil=>simp at hr
    | cons y r=>simp at hlen; omega
 have HD:Hid (dStep d ws=dCrash (z.getD 0 0) d):=by
  show _=_
  unfold dStep
  rw [ehd,if_neg hv,if_neg hr,hz]
  show dNums v z d=_
  unfold dNums
  rw [if_neg (fun h=>e1 h.1),if_pos ⟨e2,hzn⟩]
 have hzl:z.length=nl - 1:=by rw [ZaL hz,List.length_drop]; omega
 have HNB:Hid (∀ k,Calls Tryz.prog 32 #[.slice (some ⟨g0,o0+1,none⟩) (nl - 1) (cl - 1)] (w.drewN k) fun e w'=>NumsR (ws.drop 1) (nl - 1) (w.drewN k) e w'/\Below (w.drewN k).heap.size (w.drewN k) w'):=fun k=>Zat _ _ _ _ _ ((hl.below (Zab br k) nr).rest (by omega) _ (fun _=>rfl)) (by omega) (Zau hw 1) (h.drewN k).ld
 obtain ⟨rs,HRS⟩:=nm (ws.drop 1)
 rw [HRS.out] at HNB hz
 obtain rfl:nl=2:=by omega
 simp only [Nat.reduceSub] at HNB
 rw [HV.out] at c0d c0
 have n2:(2:Int)<=(cl:Int):=by omega
 have n5:¬ cl=1:=by omega
 clear hw
 go_enter Tryz.func18,Tryz.ntmps18
 go_wp2_with fail
 go_quiet (fail)
 go_wp2_with fail
 refine (HNB.out _).mono ?_
 rintro e w1 ⟨hr1,hw1⟩
 have hd1:Below w.heap.size w w1:=(Zab br _).trans hw1
 rcases hr1 with ⟨z',hz',rfl,lz,hlt1,_⟩ | ⟨hz',_⟩
 rotate_left
 ·rw [hz] at hz'; cases hz'
 obtain rfl:z=z':=by rw [hz] at hz'; simpa using hz'
 clear hz'
 have h1:=h.below hd1
 obtain ⟨g',o',e',_,hcz⟩:=lz.at (by omega)
 simp only [Option.some.injEq,Addr.mk.injEq,and_true] at e'
 obtain ⟨rfl,rfl⟩:=e'
 have z0:=hcz 0 (by omega)
 clear hcz
 rw [Nat.add_zero] at z0
 obtain ⟨kp,HK⟩:=nm (z.getD 0 0)
 rw [HK.out] at z0 HD
 have c12:=h1.cells.2.2
 replace z0:w1.cell? ⟨w.heap.size,0,none⟩=some (.int .i64 kp):=z0
 have hlt2:w.heap.size < w1.heap.size:=hlt1
 have hsl:=h.st.lt
 have hcr:=crN_le kp h.ok.sy
 have hok':Dsk.ok { d with T:=d.T.take (crN d.T.length d.sy kp),sy:=crN d.T.length d.sy kp }:=⟨h.ok.c,h.ok.s,h.ok.n,by have:=h.ok.T; show (d.T.take _).length<=4096; rw [List.length_take]; omega,by show crN d.T.length d.sy kp<=(d.T.take _).length; rw [List.length_take]; omega⟩
 have h2:DkIn base w1.drew b s d a cap X:=h1.below br.drew
 have hd2:Below w.heap.size w w1.drew:=hd1.drew
 have CR:=Lib.hid (crash_calls s d.T 4096 d.sy h.ok.sy (by have:=h.ok.T; omega) kp w1.drew h2.st)
 have KC:Hid (w1.drew.cell? ⟨b,12,none⟩=some (.pointer (some ⟨s,0,none⟩))/\w1.drew.cell? ⟨w.heap.size,0,none⟩=some (.int .i64 kp)):=⟨c12,z0⟩
 clear lz hlt1
 go_wp2_with fail
 refine wp_region_held_drew (S:=fun q=>q.cell? ⟨b,12,none⟩=some (.pointer (some ⟨s,0,none⟩))/\q.cell? ⟨w.heap.size,0,none⟩=some (.int .i64 kp)) (by kernel_rfl) (by with_reducible exact KC.out) (fun hHeld=>?_)
 refine tk 0 (h:=?_)
 refine tk 1 (h:=?_)
 refine tk 2 (h:=?_)
 refine tk 3 (h:=?_)
 refine tk 4 (h:=?_)
 refine tk 5 (h:=?_)
 refine tk 6 (h:=?_)
 refine rd 7 (h:=fun K hK=>?_)
 clear hHeld
 go_simp
 (go_at_call 34; refine CR.out.mono ?_; rintro e w2 ⟨rfl,hS,hKs⟩; have h3:DkIn base w2 b s { d with T:=d.T.take (crN d.T.length d.sy kp),sy:=crN d.T.length d.sy kp } a cap X:=h2.keeps hKs hS hok'; have Z1:w2.cell? ⟨b,12,none⟩=some (.pointer (some ⟨s,0,none⟩))/\w2.cell? ⟨w.heap.size,0,none⟩=some (.int .i64 kp):=⟨h3.cells.2.2,(hKs.cell (a:=⟨w.heap.size,0,none⟩) hlt2 (by show w.heap.size ≠ s; omega)).trans KC.out.2⟩)
 go_wp2_with fail
 refine hK.out _ _ ?_ (fun hHeld=>?_)
 ·with_reducible exact Z1
 clear hK K
 try simp only [Act.put,List.setIfInBounds_toArray,List.set_cons_zero,List.set_cons_succ]
 refine wpAnyH_done (by kernel_rfl) ?_ _
 go_wp2_with fail
 go_ret2
 exact ⟨by rw [HD.out]; rfl,⟨a,cap,X,by rw [HD.out]; exact h3⟩,(DkCh.ofBelow hd2 h.lt).trans (DkCh.ofKeeps hKs h.hs h2.lt h2.st)⟩
theorem loss_calls (h:DkIn base w b s d a cap X) (z:Int):Calls Tryz.prog 36 #[.pointer (some ⟨b,0,none⟩),.int .i64 z] w fun e w'=>LossR z d e/\Below w.heap.size w w':=by
 by_cases hz:0<=z/\z < (d.n:Int)
 ·by_cases hE:runE d.c d.n d.X d.DI d.DO (d.k:Int)=0
  ·exact loss_good h z hz hE
  ·exact loss_bad h z hz hE
 ·exact loss_out h z hz
theorem dLoss_of {z v:Int} {d:Dsk} (h:lossE z d=0->v=lossV z d):dNum v (lossE z d) d=dLoss z d:=by
 unfold dLoss
 by_cases hE:lossE z d=0
 ·rw [h hE]
 ·unfold dNum
  rw [if_neg hE,if_neg hE]
theorem do_loss (h:DkIn base w b s d a cap X) (al:Option Addr) (nl cl:Nat) (ws:List (List UInt8)) (hl:LstS w al nl cl ws) (hn1:1<=nl) (hn:nl<=70000) (hw:∀ i,(ws.getD i []).length<=70000) (hv:ws.headD [] ≠ [100,97,116,97]) (hr:ws.drop 1 ≠ []) (z:List Int) (hz:numsO (ws.drop 1)=some z) (e1:ws.headD [] ≠ [99,111,110,102,105,103]) (e2:ws.headD [] ≠ [99,114,97,115,104]) (e3:ws.headD []=[108,111,115,115]) (hzn:z.length=1):Calls Tryz.prog 18 #[.pointer (some ⟨b,0,none⟩),.slice al nl cl] w fun e w'=>DoR base b s w (dStep d ws) e w':=by
 have hlen:=hl.len
 have hcap:=hl.cap
 have ehd:ws.headD []=ws.getD 0 []:=by cases ws <;> rfl
 obtain ⟨g0,o0,rfl,hg0,hcl⟩:=hl.at (by omega)
 have c0:=hcl 0 (by omega)
 clear hcl
 rw [Nat.add_zero] at c0
 obtain ⟨v,HVL⟩:=nm (ws.getD 0 [])
 rw [HVL.out] at c0 ehd
 obtain ⟨V,HV⟩:=nm ((⟨v.toArray⟩:ByteArray))
 have c0d:∀ k,(w.drewN k).cell? ⟨g0,o0,none⟩=some (.string ⟨v.toArray⟩):=fun _=>c0
 rw [ehd] at hv
 have e0:=hv
 rw [ehd] at e1 e2 e3
 have q0:(V.toList == [100,97,116,97])=false:=by rw [← HV.out]; exact (strEqL v [100,97,116,97]).trans (decide_eq_false e0)
 have q1:(V.toList == [99,111,110,102,105,103])=false:=by rw [← HV.out]; exact (strEqL v [99,111,110,102,105,103]).trans (decide_eq_false e1)
 have q2:(V.toList == [99,114,97,115,104])=false:=by rw [← HV.out]; exact (strEqL v [99,114,97,115,104]).trans (decide_eq_false e2)
 have q3:(V.toList == [108,111,115,115])=true:=by rw [← HV.out]; exact (strEqL v [108,111,115,115]).trans (decide_eq_true e3)
 have hn2:2<=nl:=by
  cases ws with
  | nil=>simp at hr
  | cons x r =>
    cases r with
    | nil=>simp at hr
    | cons y r=>simp at hlen; omega
 have HD:Hid (dStep d ws=dLoss (z.getD 0 0) d):=by
  show _=_
  unfold dStep
  rw [ehd,if_neg hv,if_neg hr,hz]
  show dNums v z d=_
  unfold dNums
  rw [if_neg (fun h=>e1 h.1),if_neg (fun h=>e2 h.1),if_pos ⟨e3,hzn⟩]
 have hzl:z.length=nl - 1:=by rw [ZaL hz,List.length_drop]; omega
 have HNB:Hid (∀ k,Calls Tryz.prog 32 #[.slice (some ⟨g0,o0+1,none⟩) (nl - 1) (cl - 1)] (w.drewN k) fun e w'=>NumsR (ws.drop 1) (nl - 1) (w.drewN k) e w'/\Below (w.drewN k).heap.size (w.drewN k) w'):=fun k=>Zat _ _ _ _ _ ((hl.below (Zab br k) nr).rest (by omega) _ (fun _=>rfl)) (by omega) (Zau hw 1) (h.drewN k).ld
 obtain ⟨rs,HRS⟩:=nm (ws.drop 1)
 rw [HRS.out] at HNB hz
 obtain rfl:nl=2:=by omega
 simp only [Nat.reduceSub] at HNB
 rw [HV.out] at c0d c0
 have n2:(2:Int)<=(cl:Int):=by omega
 have n5:¬ cl=1:=by omega
 clear hw
 go_enter Tryz.func18,Tryz.ntmps18
 go_wp2_with fail
 go_quiet (fail)
 go_wp2_with fail
 refine (HNB.out _).mono ?_
 rintro e w1 ⟨hr1,hw1⟩
 have hd1:Below w.heap.size w w1:=(Zab br _).trans hw1
 rcases hr1 with ⟨z',hz',rfl,lz,hlt1,_⟩ | ⟨hz',_⟩
 rotate_left
 ·rw [hz] at hz'; cases hz'
 obtain rfl:z=z':=by rw [hz] at hz'; simpa using hz'
 clear hz'
 have h1:=h.below hd1
 obtain ⟨g',o',e',_,hcz⟩:=lz.at (by omega)
 simp only [Option.some.injEq,Addr.mk.injEq,and_true] at e'
 obtain ⟨rfl,rfl⟩:=e'
 have z0:=hcz 0 (by omega)
 clear hcz
 rw [Nat.add_zero] at z0
 obtain ⟨kp,HK⟩:=nm (z.getD 0 0)
 rw [HK.out] at z0 HD
 have c12:=h1.cells.2.2
 replace z0:w1.cell? ⟨w.heap.size,0,none⟩=some (.int .i64 kp):=z0
 clear lz hlt1
 have LS:=Lib.hid (loss_calls h1 kp)
 have HH:Hid (∀ q,Below w.heap.size w q->DkIn base q b s d a cap X):=fun q hq=>h.below hq
 have HNC:Hid (∀ q v2,Below w.heap.size w q->(lossE kp d=0->v2=lossV kp d)->-2147483647<=v2->v2<=2147483647->Calls Tryz.prog 35 #[.int .i64 v2,.int .i64 (lossE kp d)] q fun e w'=>e=.returned (.tuple #[.string ⟨(dLoss kp d).told.toArray⟩,.int .i64 (dLoss kp d).e])/\Below q.heap.size q w'):=fun q v2 hq hv0 hv1 hv2=>by
  have N:=ZbL v2 (lossE kp d) (by omega) (by omega) d q (h.below hq).ld
  rw [dLoss_of hv0] at N
  exact N
 have HDD:Hid ((dLoss kp d).d=d):=dNum_d _ _ d
 have hlt0:=h.lt
 obtain ⟨ND,HND⟩:=nm (dLoss kp d)
 rw [HND.out] at HNC HD HDD
 obtain ⟨told,ne,nd⟩:=ND
 dsimp only at HNC HDD
 obtain rfl:d=nd:=HDD.out.symm
 obtain ⟨Z,HZ⟩:=nm ((⟨told.toArray⟩:ByteArray))
 rw [HZ.out] at HNC
 go_wp2_with (go_at_call 36; refine LS.out.mono ?_; rintro e w2 ⟨⟨v2,rfl,hv0,hv1,hv2⟩,hw2⟩; have hd2:=hd1.trans (hw2.mono hd1.size); have NC:=HNC.out w2 v2 hd2 hv0 hv1 hv2)
 go_wp2_with (go_at_call 35; refine NC.mono ?_; rintro e w3 ⟨rfl,hw3⟩; have hd3:=hd2.trans (hw3.mono hd2.size))
 go_ret2
 exact ⟨by rw [HD.out]; dsimp only; rw [HZ.out]; rfl,⟨a,cap,X,by rw [HD.out]; exact HH.out _ hd3⟩,DkCh.ofBelow hd3 hlt0⟩
theorem do_other_oconfig (h:DkIn base w b s d a cap X) (al:Option Addr) (nl cl:Nat) (ws:List (List UInt8)) (hl:LstS w al nl cl ws) (hn1:1<=nl) (hn:nl<=70000) (hw:∀ i,(ws.getD i []).length<=70000) (hv:ws.headD [] ≠ [100,97,116,97]) (hr:ws.drop 1 ≠ []) (z:List Int) (hz:numsO (ws.drop 1)=some z) (e1:ws.headD []=[99,111,110,102,105,103]) (hzn:z.length ≠ 11):Calls Tryz.prog 18 #[.pointer (some ⟨b,0,none⟩),.slice al nl cl] w fun e w'=>DoR base b s w (dStep d ws) e w':=by
 have hlen:=hl.len
 have hcap:=hl.cap
 have ehd:ws.headD []=ws.getD 0 []:=by cases ws <;> rfl
 obtain ⟨g0,o0,rfl,hg0,hcl⟩:=hl.at (by omega)
 have c0:=hcl 0 (by omega)
 clear hcl
 rw [Nat.add_zero] at c0
 obtain ⟨v,HVL⟩:=nm (ws.getD 0 [])
 rw [HVL.out] at c0 ehd
 obtain ⟨V,HV⟩:=nm ((⟨v.toArray⟩:ByteArray))
 have c0d:∀ k,(w.drewN k).cell? ⟨g0,o0,none⟩=some (.string ⟨v.toArray⟩):=fun _=>c0
 rw [ehd] at hv
 have e0:=hv
 rw [ehd] at e1
 have e2:v ≠ [99,114,97,115,104]:=by rw [e1]; decide
 have e3:v ≠ [108,111,115,115]:=by rw [e1]; decide
 have q1:(V.toList == [99,111,110,102,105,103])=true:=by rw [← HV.out]; exact (strEqL v [99,111,110,102,105,103]).trans (decide_eq_true e1)
 have q2:(V.toList == [99,114,97,115,104])=false:=by rw [← HV.out]; exact (strEqL v [99,114,97,115,104]).trans (decide_eq_false e2)
 have q3:(V.toList == [108,111,115,115])=false:=by rw [← HV.out]; exact (strEqL v [108,111,115,115]).trans (decide_eq_false e3)
 have q0:(V.toList == [100,97,116,97])=false:=by rw [← HV.out]; exact (strEqL v [100,97,116,97]).trans (decide_eq_false e0)
 have hn2:2<=nl:=by
  cases ws with
  | nil=>simp at hr
  | cons x r =>
    cases r with
    | nil=>simp at hr
    | cons y r=>simp at hlen; omega
 have HD:Hid (dStep d ws=⟨[],3,d⟩):=by
  show _=_
  unfold dStep
  rw [ehd,if_neg hv,if_neg hr,hz]
  show dNums v z d=_
  unfold dNums
  rw [if_neg (fun h=>hzn h.2),if_neg (fun h=>e2 h.1),if_neg (fun h=>e3 h.1)]
 have hzl:z.length=nl - 1:=by rw [ZaL hz,List.length_drop]; omega
 have HNB:Hid (∀ k,Calls Tryz.prog 32 #[.slice (some ⟨g0,o0+1,none⟩) (nl - 1) (cl - 1)] (w.drewN k) fun e w'=>NumsR (ws.drop 1) (nl - 1) (w.drewN k) e w'/\Below (w.drewN k).heap.size (w.drewN k) w'):=fun k=>Zat _ _ _ _ _ ((hl.below (Zab br k) nr).rest (by omega) _ (fun _=>rfl)) (by omega) (Zau hw 1) (h.drewN k).ld
 obtain ⟨rs,HRS⟩:=nm (ws.drop 1)
 rw [HRS.out] at HNB hz
 have n7:(((nl - 1:Nat):Int) == 11)=false:=by rw [beq_eq_false_iff_ne]; omega
 rw [HV.out] at c0d c0
 have n1:(1:Int)<=(nl:Int):=by omega
 have n2:(nl:Int)<=(cl:Int):=by omega
 have n3:(0:Int) < (nl:Int):=by omega
 have n4:0 < nl:=by omega
 have n5:¬ cl=1:=by omega
 have n6:(((nl - 1:Nat):Int) == 0)=false:=by rw [beq_eq_false_iff_ne]; omega
 clear hw
 go_enter Tryz.func18,Tryz.ntmps18
 go_wp2_with fail
 go_quiet (fail)
 go_wp2_with fail
 refine (HNB.out _).mono ?_
 rintro e w1 ⟨hr1,hw1⟩
 have hd1:Below w.heap.size w w1:=(Zab br _).trans hw1
 rcases hr1 with ⟨z',hz',rfl,lz,hlt1,_⟩ | ⟨hz',_⟩
 rotate_left
 ·rw [hz] at hz'; cases hz'
 obtain rfl:z=z':=by rw [hz] at hz'; simpa using hz'
 clear hz'
 have h1:=h.below hd1
 go_wp2_with fail
 go_ret2
 exact ⟨by rw [HD.out]; rfl,⟨a,cap,X,by rw [HD.out]; exact h1⟩,DkCh.ofBelow hd1 h.lt⟩
theorem do_other_ocrash (h:DkIn base w b s d a cap X) (al:Option Addr) (nl cl:Nat) (ws:List (List UInt8)) (hl:LstS w al nl cl ws) (hn1:1<=nl) (hn:nl<=70000) (hw:∀ i,(ws.getD i []).length<=70000) (hv:ws.headD [] ≠ [100,97,116,97]) (hr:ws.drop 1 ≠ []) (z:List Int) (hz:numsO (ws.drop 1)=some z) (e2:ws.headD []=[99,114,97,115,104]) (hzn:z.length ≠ 1):Calls Tryz.prog 18 #[.pointer (some ⟨b,0,none⟩),.slice al nl cl] w fun e w'=>DoR base b s w (dStep d ws) e w':=by
 have hlen:=hl.len
 have hcap:=hl.cap
 have ehd:ws.headD []=ws.getD 0 []:=by cases ws <;> rfl
 obtain ⟨g0,o0,rfl,hg0,hcl⟩:=hl.at (by omega)
 have c0:=hcl 0 (by omega)
 clear hcl
 rw [Nat.add_zero] at c0
 obtain ⟨v,HVL⟩:=nm (ws.getD 0 [])
 rw [HVL.out] at c0 ehd
 obtain ⟨V,HV⟩:=nm ((⟨v.toArray⟩:ByteArray))
 have c0d:∀ k,(w.drewN k).cell? ⟨g0,o0,none⟩=some (.string ⟨v.toArray⟩):=fun _=>c0
 rw [ehd] at hv
 have e0:=hv
 rw [ehd] at e2
 have e1:v ≠ [99,111,110,102,105,103]:=by rw [e2]; decide
 have e3:v ≠ [108,111,115,115]:=by rw [e2]; decide
 have q1:(V.toList == [99,111,110,102,105,103])=false:=by rw [← HV.out]; exact (strEqL v [99,111,110,102,105,103]).trans (decide_eq_false e1)
 have q2:(V.toList == [99,114,97,115,104])=true:=by rw [← HV.out]; exact (strEqL v [99,114,97,115,104]).trans (decide_eq_true e2)
 have q3:(V.toList == [108,111,115,115])=false:=by rw [← HV.out]; exact (strEqL v [108,111,115,115]).trans (decide_eq_false e3)
 have q0:(V.toList == [100,97,116,97])=false:=by rw [← HV.out]; exact (strEqL v [100,97,116,97]).trans (decide_eq_false e0)
 have hn2:2<=nl:=by
  cases ws with
  | nil=>simp at hr
  | cons x r =>
    cases r with
    | nil=>simp at hr
    | cons y r=>simp at hlen; omega
 have HD:Hid (dStep d ws=⟨[],3,d⟩):=by
  show _=_
  unfold dStep
  rw [ehd,if_neg hv,if_neg hr,hz]
  show dNums v z d=_
  unfold dNums
  rw [if_neg (fun h=>e1 h.1),if_neg (fun h=>hzn h.2),if_neg (fun h=>e3 h.1)]
 have hzl:z.length=nl - 1:=by rw [ZaL hz,List.length_drop]; omega
 have HNB:Hid (∀ k,Calls Tryz.prog 32 #[.slice (some ⟨g0,o0+1,none⟩) (nl - 1) (cl - 1)] (w.drewN k) fun e w'=>NumsR (ws.drop 1) (nl - 1) (w.drewN k) e w'/\Below (w.drewN k).heap.size (w.drewN k) w'):=fun k=>Zat _ _ _ _ _ ((hl.below (Zab br k) nr).rest (by omega) _ (fun _=>rfl)) (by omega) (Zau hw 1) (h.drewN k).ld
 obtain ⟨rs,HRS⟩:=nm (ws.drop 1)
 rw [HRS.out] at HNB hz
 have n7:(((nl - 1:Nat):Int) == 1)=false:=by rw [beq_eq_false_iff_ne]; omega
 rw [HV.out] at c0d c0
 have n1:(1:Int)<=(nl:Int):=by omega
 have n2:(nl:Int)<=(cl:Int):=by omega
 have n3:(0:Int) < (nl:Int):=by omega
 have n4:0 < nl:=by omega
 have n5:¬ cl=1:=by omega
 have n6:(((nl - 1:Nat):Int) == 0)=false:=by rw [beq_eq_false_iff_ne]; omega
 clear hw
 go_enter Tryz.func18,Tryz.ntmps18
 go_wp2_with fail
 go_quiet (fail)
 go_wp2_with fail
 refine (HNB.out _).mono ?_
 rintro e w1 ⟨hr1,hw1⟩
 have hd1:Below w.heap.size w w1:=(Zab br _).trans hw1
 rcases hr1 with ⟨z',hz',rfl,lz,hlt1,_⟩ | ⟨hz',_⟩
 rotate_left
 ·rw [hz] at hz'; cases hz'
 obtain rfl:z=z':=by rw [hz] at hz'; simpa using hz'
 clear hz'
 have h1:=h.below hd1
 go_wp2_with fail
 go_ret2
 exact ⟨by rw [HD.out]; rfl,⟨a,cap,X,by rw [HD.out]; exact h1⟩,DkCh.ofBelow hd1 h.lt⟩
theorem do_other_oloss (h:DkIn base w b s d a cap X) (al:Option Addr) (nl cl:Nat) (ws:List (List UInt8)) (hl:LstS w al nl cl ws) (hn1:1<=nl) (hn:nl<=70000) (hw:∀ i,(ws.getD i []).length<=70000) (hv:ws.headD [] ≠ [100,97,116,97]) (hr:ws.drop 1 ≠ []) (z:List Int) (hz:numsO (ws.drop 1)=some z) (e3:ws.headD []=[108,111,115,115]) (hzn:z.length ≠ 1):Calls Tryz.prog 18 #[.pointer (some ⟨b,0,none⟩),.slice al nl cl] w fun e w'=>DoR base b s w (dStep d ws) e w':=by
 have hlen:=hl.len
 have hcap:=hl.cap
 have ehd:ws.headD []=ws.getD 0 []:=by cases ws <;> rfl
 obtain ⟨g0,o0,rfl,hg0,hcl⟩:=hl.at (by omega)
 have c0:=hcl 0 (by omega)
 clear hcl
 rw [Nat.add_zero] at c0
 obtain ⟨v,HVL⟩:=nm (ws.getD 0 [])
 rw [HVL.out] at c0 ehd
 obtain ⟨V,HV⟩:=nm ((⟨v.toArray⟩:ByteArray))
 have c0d:∀ k,(w.drewN k).cell? ⟨g0,o0,none⟩=some (.string ⟨v.toArray⟩):=fun _=>c0
 rw [ehd] at hv
 have e0:=hv
 rw [ehd] at e3
 have e1:v ≠ [99,111,110,102,105,103]:=by rw [e3]; decide
 have e2:v ≠ [99,114,97,115,104]:=by rw [e3]; decide
 have q1:(V.toList == [99,111,110,102,105,103])=false:=by rw [← HV.out]; exact (strEqL v [99,111,110,102,105,103]).trans (decide_eq_false e1)
 have q2:(V.toList == [99,114,97,115,104])=false:=by rw [← HV.out]; exact (strEqL v [99,114,97,115,104]).trans (decide_eq_false e2)
 have q3:(V.toList == [108,111,115,115])=true:=by rw [← HV.out]; exact (strEqL v [108,111,115,115]).trans (decide_eq_true e3)
 have q0:(V.toList == [100,97,116,97])=false:=by rw [← HV.out]; exact (strEqL v [100,97,116,97]).trans (decide_eq_false e0)
 have hn2:2<=nl:=by
  cases ws with
  | nil=>simp at hr
  | cons x r =>
    cases r with
    | nil=>simp at hr
    | cons y r=>simp at hlen; omega
 have HD:Hid (dStep d ws=⟨[],3,d⟩):=by
  show _=_
  unfold dStep
  rw [ehd,if_neg hv,if_neg hr,hz]
  show dNums v z d=_
  unfold dNums
  rw [if_neg (fun h=>e1 h.1),if_neg (fun h=>e2 h.1),if_neg (fun h=>hzn h.2)]
 have hzl:z.length=nl - 1:=by rw [ZaL hz,List.length_drop]; omega
 have HNB:Hid (∀ k,Calls Tryz.prog 32 #[.slice (some ⟨g0,o0+1,none⟩) (nl - 1) (cl - 1)] (w.drewN k) fun e w'=>NumsR (ws.drop 1) (nl - 1) (w.drewN k) e w'/\Below (w.drewN k).heap.size (w.drewN k) w'):=fun k=>Zat _ _ _ _ _ ((hl.below (Zab br k) nr).rest (by omega) _ (fun _=>rfl)) (by omega) (Zau hw 1) (h.drewN k).ld
 obtain ⟨rs,HRS⟩:=nm (ws.drop 1)
 rw [HRS.out] at HNB hz
 have n7:(((nl - 1:Nat):Int) == 1)=false:=by rw [beq_eq_false_iff_ne]; omega
 rw [HV.out] at c0d c0
 have n1:(1:Int)<=(nl:Int):=by omega
 have n2:(nl:Int)<=(cl:Int):=by omega
 have n3:(0:Int) < (nl:Int):=by omega
 have n4:0 < nl:=by omega
 have n5:¬ cl=1:=by omega
 have n6:(((nl - 1:Nat):Int) == 0)=false:=by rw [beq_eq_false_iff_ne]; omega
 clear hw
 go_enter Tryz.func18,Tryz.ntmps18
 go_wp2_with fail
 go_quiet (fail)
 go_wp2_with fail
 refine (HNB.out _).mono ?_
 rintro e w1 ⟨hr1,hw1⟩
 have hd1:Below w.heap.size w w1:=(Zab br _).trans hw1
 rcases hr1 with ⟨z',hz',rfl,lz,hlt1,_⟩ | ⟨hz',_⟩
 rotate_left
 ·rw [hz] at hz'; cases hz'
 obtain rfl:z=z':=by rw [hz] at hz'; simpa using hz'
 clear hz'
 have h1:=h.below hd1
 go_wp2_with fail
 go_ret2
 exact ⟨by rw [HD.out]; rfl,⟨a,cap,X,by rw [HD.out]; exact h1⟩,DkCh.ofBelow hd1 h.lt⟩
theorem do_other_onone (h:DkIn base w b s d a cap X) (al:Option Addr) (nl cl:Nat) (ws:List (List UInt8)) (hl:LstS w al nl cl ws) (hn1:1<=nl) (hn:nl<=70000) (hw:∀ i,(ws.getD i []).length<=70000) (hv:ws.headD [] ≠ [100,97,116,97]) (hr:ws.drop 1 ≠ []) (z:List Int) (hz:numsO (ws.drop 1)=some z) (e1:ws.headD [] ≠ [99,111,110,102,105,103]) (e2:ws.headD [] ≠ [99,114,97,115,104]) (e3:ws.headD [] ≠ [108,111,115,115]):Calls Tryz.prog 18 #[.pointer (some ⟨b,0,none⟩),.slice al nl cl] w fun e w'=>DoR base b s w (dStep d ws) e w':=by
 have hlen:=hl.len
 have hcap:=hl.cap
 have ehd:ws.headD []=ws.getD 0 []:=by cases ws <;> rfl
 obtain ⟨g0,o0,rfl,hg0,hcl⟩:=hl.at (by omega)
 have c0:=hcl 0 (by omega)
 clear hcl
 rw [Nat.add_zero] at c0
 obtain ⟨v,HVL⟩:=nm (ws.getD 0 [])
 rw [HVL.out] at c0 ehd
 obtain ⟨V,HV⟩:=nm ((⟨v.toArray⟩:ByteArray))
 have c0d:∀ k,(w.drewN k).cell? ⟨g0,o0,none⟩=some (.string ⟨v.toArray⟩):=fun _=>c0
 rw [ehd] at hv
 have e0:=hv
 rw [ehd] at e1 e2 e3
 have q1:(V.toList == [99,111,110,102,105,103])=false:=by rw [← HV.out]; exact (strEqL v [99,111,110,102,105,103]).trans (decide_eq_false e1)
 have q2:(V.toList == [99,114,97,115,104])=false:=by rw [← HV.out]; exact (strEqL v [99,114,97,115,104]).trans (decide_eq_false e2)
 have q3:(V.toList == [108,111,115,115])=false:=by rw [← HV.out]; exact (strEqL v [108,111,115,115]).trans (decide_eq_false e3)
 have q0:(V.toList == [100,97,116,97])=false:=by rw [← HV.out]; exact (strEqL v [100,97,116,97]).trans (decide_eq_false e0)
 have hn2:2<=nl:=by
  cases ws with
  | nil=>simp at hr
  | cons x r =>
    cases r with
    | nil=>simp at hr
    | cons y r=>simp at hlen; omega
 have HD:Hid (dStep d ws=⟨[],3,d⟩):=by
  show _=_
  unfold dStep
  rw [ehd,if_neg hv,if_neg hr,hz]
  show dNums v z d=_
  unfold dNums
  rw [if_neg (fun h=>e1 h.1),if_neg (fun h=>e2 h.1),if_neg (fun h=>e3 h.1)]
 have hzl:z.length=nl - 1:=by rw [ZaL hz,List.length_drop]; omega
 have HNB:Hid (∀ k,Calls Tryz.prog 32 #[.slice (some ⟨g0,o0+1,none⟩) (nl - 1) (cl - 1)] (w.drewN k) fun e w'=>NumsR (ws.drop 1) (nl - 1) (w.drewN k) e w'/\Below (w.drewN k).heap.size (w.drewN k) w'):=fun k=>Zat _ _ _ _ _ ((hl.below (Zab br k) nr).rest (by omega) _ (fun _=>rfl)) (by omega) (Zau hw 1) (h.drewN k).ld
 obtain ⟨rs,HRS⟩:=nm (ws.drop 1)
 rw [HRS.out] at HNB hz
 rw [HV.out] at c0d c0
 have n1:(1:Int)<=(nl:Int):=by omega
 have n2:(nl:Int)<=(cl:Int):=by omega
 have n3:(0:Int) < (nl:Int):=by omega
 have n4:0 < nl:=by omega
 have n5:¬ cl=1:=by omega
 have n6:(((nl - 1:Nat):Int) == 0)=false:=by rw [beq_eq_false_iff_ne]; omega
 clear hw
 go_enter Tryz.func18,Tryz.ntmps18
 go_wp2_with fail
 go_quiet (fail)
 go_wp2_with fail
 refine (HNB.out _).mono ?_
 rintro e w1 ⟨hr1,hw1⟩
 have hd1:Below w.heap.size w w1:=(Zab br _).trans hw1
 rcases hr1 with ⟨z',hz',rfl,lz,hlt1,_⟩ | ⟨hz',_⟩
 rotate_left
 ·rw [hz] at hz'; cases hz'
 obtain rfl:z=z':=by rw [hz] at hz'; simpa using hz'
 clear hz'
 have h1:=h.below hd1
 go_wp2_with fail
 go_ret2
 exact ⟨by rw [HD.out]; rfl,⟨a,cap,X,by rw [HD.out]; exact h1⟩,DkCh.ofBelow hd1 h.lt⟩
theorem do_calls (h:DkIn base w b s d a cap X) (al:Option Addr) (nl cl:Nat) (ws:List (List UInt8)) (hl:LstS w al nl cl ws) (hn1:1<=nl) (hn:nl<=70000) (hw:∀ i,(ws.getD i []).length<=70000):Calls Tryz.prog 18 #[.pointer (some ⟨b,0,none⟩),.slice al nl cl] w fun e w'=>DoR base b s w (dStep d ws) e w':=by
 by_cases h0:ws.headD []=[100,97,116,97]
 ·exact do_data h al nl cl ws hl hn1 hn hw h0
 by_cases hr:ws.drop 1=[]
 ·exact do_alone h al nl cl ws hl hn1 hn hw h0 hr
 cases hz:numsO (ws.drop 1) with
 | none=>exact do_nonum h al nl cl ws hl hn1 hn hw h0 hr hz
 | some z =>
   by_cases h1:ws.headD []=[99,111,110,102,105,103]
   ·by_cases hn2:z.length=11
    ·exact do_config h al nl cl ws hl hn1 hn hw h0 hr z hz h1 hn2
    ·exact do_other_oconfig h al nl cl ws hl hn1 hn hw h0 hr z hz h1 hn2
   by_cases h2:ws.headD []=[99,114,97,115,104]
   ·by_cases hn2:z.length=1
    ·exact do_crash h al nl cl ws hl hn1 hn hw h0 hr z hz h1 h2 hn2
    ·exact do_other_ocrash h al nl cl ws hl hn1 hn hw h0 hr z hz h2 hn2
   by_cases h3:ws.headD []=[108,111,115,115]
   ·by_cases hn2:z.length=1
    ·exact do_loss h al nl cl ws hl hn1 hn hw h0 hr z hz h1 h2 h3 hn2
    ·exact do_other_oloss h al nl cl ws hl hn1 hn hw h0 hr z hz h3 hn2
   exact do_other_onone h al nl cl ws hl hn1 hn hw h0 hr z hz h1 h2 h3
end
def OutB (o:Out):Prop:=o.told.length<=5000/\0<=o.e/\o.e<=99
theorem Zbx {e:Int} (h0:0<=e) (h1:e<=99) (d:Dsk):OutB ⟨[],e,d⟩:=⟨Nat.zero_le _,h0,h1⟩
theorem outB_ok (d:Dsk):OutB ⟨okA,0,d⟩:=⟨by show okA.length<=5000; decide,by show (0:Int)<=0; decide,by show (0:Int)<=99; decide⟩
theorem outB_itoa {n:Int} (h0:-9223372036854775808<=n) (h1:n<=9223372036854775807) (d:Dsk):OutB ⟨Lib.itoa n,0,d⟩:=⟨Nat.le_trans (Lib.itoa_length_le n h0 h1) (by decide),by show (0:Int)<=0; decide,by show (0:Int)<=99; decide⟩
theorem outB_num {n e:Int} (h0:-9223372036854775808<=n) (h1:n<=9223372036854775807) (h2:0<=e) (h3:e<=99) (d:Dsk):OutB (dNum n e d):=by
 unfold dNum
 split
 ·exact outB_itoa h0 h1 d
 ·exact Zbx h2 h3 d
theorem ZbA (c:Cfg) (n:Nat) (X:Nat->Exm) (DI DO:Nat->List Int):0<=courseI c n X DI DO/\courseI c n X DI DO<=99:=by
 unfold courseI
 split
 ·split
  ·decide
  ·split
   ·decide
   ·split <;> decide
 ·decide
theorem cfgI_bd (c:Cfg):0<=cfgI c/\cfgI c<=99:=by
 unfold cfgI
 split <;> decide
theorem mkE_bd (c:Cfg) (n:Nat) (X:Nat->Exm) (DI DO:Nat->List Int) (m:Int):0<=mkE c n X DI DO m/\mkE c n X DI DO m<=99:=by
 unfold mkE
 split
 ·split <;> decide
 ·exact ZbA c n X DI DO
theorem runE_bd (c:Cfg) (n:Nat) (X:Nat->Exm) (DI DO:Nat->List Int) (m:Int):0<=runE c n X DI DO m/\runE c n X DI DO m<=99:=by
 unfold runE
 split
 ·split <;> decide
 ·exact ZbA c n X DI DO
theorem whE_bd (c:Cfg) (n:Nat) (X:Nat->Exm) (DI DO:Nat->List Int) (m:Nat):0<=whE c n X DI DO m/\whE c n X DI DO m<=99:=by
 unfold whE
 split
 ·split <;> decide
 ·exact ZbA c n X DI DO
theorem lossE_bd (z:Int) (d:Dsk):0<=lossE z d/\lossE z d<=99:=by
 unfold lossE
 split
 ·exact runE_bd _ _ _ _ _ _
 ·decide
theorem outB_take (d:Dsk):OutB (dTake d):=by
 unfold dTake
 split
 ·split
  ·exact Zbx (by decide) (by decide) d
  ·rename_i h
   refine ⟨?_,by show (0:Int)<=0; decide,by show (0:Int)<=99; decide⟩
   show (jrL d.c d.n d.DI d.DO d.k).line.length<=5000
   have:(jrL d.c d.n d.DI d.DO d.k).text.length=(jrL d.c d.n d.DI d.DO d.k).line.length+1:=by unfold Ln.text; rw [List.length_append]; rfl
   omega
 ·exact Zbx (mkE_bd _ _ _ _ _ _).1 (mkE_bd _ _ _ _ _ _).2 d
theorem flat_le (T:List UInt8):(flatLn (begL T)).length<=T.length:=by
 obtain ⟨r,hr⟩:=(begL_is T).toBegTo.pre
 have:=congrArg List.length hr
 rw [List.length_append] at this
 omega
theorem outB_alone {d:Dsk} (h:d.ok) (v:List UInt8):OutB (dAlone v d):=by
 have hT:=h.T
 have hF:=flat_le d.T
 unfold dAlone
 split
 ·exact outB_take d
 split
 ·exact outB_ok _
 split
 ·unfold dRepair
  exact outB_itoa (by omega) (by omega) _
 split
 ·unfold dAudit
  have hk:d.k<=100:=(begL_is d.T).toBegTo.len
  have hN:whN d.c d.n d.X d.DI d.DO d.k (rcL (begL d.T)) (fun j=>(lnAt (begL d.T) j).b)<=100:=by
   unfold whN
   split
   ·exact Nat.le_trans (ZcO _ _) hk
   ·omega
  exact outB_num (by omega) (by omega) (whE_bd _ _ _ _ _ _).1 (whE_bd _ _ _ _ _ _).2 d
 split
 ·exact outB_itoa (by omega) (by omega) _
 ·exact Zbx (by decide) (by decide) d
theorem outB_step {d:Dsk} (h:d.ok) (ws:List (List UInt8)):OutB (dStep d ws):=by
 unfold dStep
 split
 ·unfold dData
  split
  ·exact Zbx (by decide) (by decide) d
  ·split
   ·exact Zbx (by decide) (by decide) d
   ·exact outB_ok _
 split
 ·exact outB_alone h _
 split
 ·exact Zbx (by decide) (by decide) d
 ·unfold dNums
  split
  ·unfold dConf
   split
   ·exact outB_ok _
   ·exact Zbx (cfgI_bd _).1 (cfgI_bd _).2 d
  split
  ·unfold dCrash
   exact outB_ok _
  split
  ·unfold dLoss
   rename_i z _ _ _ _
   have:=lossV_bd (z.getD 0 0) d
   exact outB_num (by omega) (by omega) (lossE_bd _ d).1 (lossE_bd _ d).2 d
  ·exact Zbx (by decide) (by decide) d
theorem Out.line_is (o:Out):(if o.e=0 then o.told else errA o.e)=o.line:=rfl
theorem Out.line_short {o:Out} (h:OutB o):o.line.length<=5000:=by
 unfold Out.line
 split
 ·exact h.1
 ·unfold errA
  have:=Lib.itoa_length_le o.e (by have:=h.2.1; omega) (by have:=h.2.2; omega)
  rw [List.length_append]
  show 6+_<=_
  omega
end Go.Proofs.YthmiojmlaclgaaaGreatDoor.Fx
