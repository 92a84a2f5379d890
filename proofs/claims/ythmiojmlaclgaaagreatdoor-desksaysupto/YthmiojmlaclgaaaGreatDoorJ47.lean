/- What the law stands on: RefDkK DeskSaysWalk. -/
import Derived.Test.YthmiojmlaclgaaaGreatDoorJ00
import Derived.Test.YthmiojmlaclgaaaGreatDoorJ46
import Derived.Test.YthmiojmlaclgaaaGreatDoorJ30
import Derived.Test.YthmiojmlaclgaaaGreatDoorJ41
set_option maxRecDepth 100000
set_option maxHeartbeats 12800000
namespace Go.Proofs.YthmiojmlaclgaaaGreatDoor.Fx
open Go.RowKit
section
variable {base:Nat} {w w':World} {b:Nat} {d:Dsk} {a:Option Addr} {cap:Nat} {X:Nat->Exm}
theorem many_ways {v:List UInt8} {m:Int} (h:manyO v=some m):(v=[98,121,116,101,115]/\m=0)\/(v=[108,111,115,115]/\m=1)\/(v=[97,117,100,105,116]/\m=0)\/(v=[114,101,112,97,105,114]/\m=0)\/(v=[99,114,97,115,104]/\m=1)\/(v=[115,121,110,99]/\m=0)\/(v=[115,116,101,112]/\m=0)\/(v=[99,111,110,102,105,103]/\m=11):=by
 unfold manyO at h
 split at h
 ·rename_i e
  exact .inl ⟨e,(Option.some.inj h).symm⟩
 split at h
 ·rename_i e
  exact .inr (.inl ⟨e,(Option.some.inj h).symm⟩)
 split at h
 ·rename_i e
  exact .inr (.inr (.inl ⟨e,(Option.some.inj h).symm⟩))
 split at h
 ·rename_i e
  exact .inr (.inr (.inr (.inl ⟨e,(Option.some.inj h).symm⟩)))
 split at h
 ·rename_i e
  exact .inr (.inr (.inr (.inr (.inl ⟨e,(Option.some.inj h).symm⟩))))
 split at h
 ·rename_i e
  exact .inr (.inr (.inr (.inr (.inr (.inl ⟨e,(Option.some.inj h).symm⟩)))))
 split at h
 ·rename_i e
  exact .inr (.inr (.inr (.inr (.inr (.inr (.inl ⟨e,(Option.some.inj h).symm⟩))))))
 split at h
 ·rename_i e
  exact .inr (.inr (.inr (.inr (.inr (.inr (.inr (⟨e,(Option.some.inj h).symm⟩)))))))
 ·cases h
theorem line_calls (h:BnIn base w b d a cap X) (v:List UInt8) (hvl:v.length<=70000) (al:Option Addr) (nl cl:Nat) (ws:List (List UInt8)) (hl:LstS w al nl cl ws) (hn:nl<=70000) (hw:∀ i,(ws.getD i []).length<=70000) :
  Calls Tryz.prog 21 #[.pointer (some ⟨b,0,none⟩),.string ⟨v.toArray⟩,.slice al nl cl] w fun e w'=>BnR base b w (dStep d (v :: ws)) e w':=by
 by_cases hv:v=[100,97,116,97]
 ·subst hv
  exact line_data h al nl cl ws hl hn hw
 by_cases hb:∃ z,numsO ws=some z/\manyO v=some (z.length:Int)
 ·obtain ⟨z,hz,hm⟩:=hb
  have hlen:=hl.len
  have hzl:=ZaL hz
  rcases many_ways hm with ⟨rfl,e⟩ | ⟨rfl,e⟩ | ⟨rfl,e⟩ | ⟨rfl,e⟩ | ⟨rfl,e⟩ | ⟨rfl,e⟩ | ⟨rfl,e⟩ | ⟨rfl,e⟩
  ·exact line_bytes h al nl cl ws hl hn hw (by omega)
  ·exact line_loss h al nl cl ws hl hn hw z hz (by omega)
  ·exact line_audit h al nl cl ws hl hn hw (by omega)
  ·exact line_repair h al nl cl ws hl hn hw (by omega)
  ·exact line_crash h al nl cl ws hl hn hw z hz (by omega)
  ·exact line_sync h al nl cl ws hl hn hw (by omega)
  ·exact line_step h al nl cl ws hl hn hw (by omega)
  ·exact line_config h al nl cl ws hl hn hw z hz (by omega)
 ·exact line_bad h v hv hvl al nl cl ws hl hn hw (fun z hz hm=>hb ⟨z,hz,hm⟩)
theorem bench_new (w:World) (hL:LD w):BnIn w.heap.size (w.alloc (.cells #[.int .i64 1,.int .i64 1,.int .i64 1,.int .u64 1,.int .i64 1,.int .i64 3,.int .i64 6554,.int .i64 0,.int .i64 0,.int .i64 0,.int .i64 0,.slice none 0 0,.string ⟨#[]⟩,.int .i64 0] 53)) w.heap.size d0 none 0 noEx:=by
 have B1:=Zac w (.cells #[.int .i64 1,.int .i64 1,.int .i64 1,.int .u64 1,.int .i64 1,.int .i64 3,.int .i64 6554,.int .i64 0,.int .i64 0,.int .i64 0,.int .i64 0,.slice none 0 0,.string ⟨#[]⟩,.int .i64 0] 53)
 refine ⟨World.rowIs_alloc w _ 53 (bnCell d0.c (.slice none 0 0) [] 0) (fun i hi=>?_),World.ownsRow_nil _ _ _ _,fun i hi=>absurd hi (Nat.not_lt_zero _),fun i hi=>absurd hi (Nat.not_lt_zero _),nr,d0_ok,⟨w,hL,nr,B1⟩⟩
 have hi':i < 14:=by simpa using hi
 rcases lt14 hi' with rfl | rfl | rfl | rfl | rfl | rfl | rfl | rfl | rfl | rfl | rfl | rfl | rfl | rfl <;> rfl
def DeskI (B b:Nat) (ls:List (List UInt8)) (w1:World) (k:Nat) (wr:World) (OB:ByteArray):Prop:=(⟨(dTo ls k).2.toArray⟩:ByteArray)=OB/\(∃ a cap X,BnIn B wr b (dTo ls k).1 a cap X)/\Below B w1 wr
theorem words_cons {ws:List (List UInt8)} (h:1<=ws.length):ws=ws.getD 0 [] :: ws.drop 1:=by
 cases ws with
 | nil=>simp at h
 | cons x r=>rfl
theorem rdesk_calls (s:List UInt8) (hs:s.length<=1048576) (w:World) (hL:LD w) :
  Calls Tryz.prog 7 #[.string ⟨s.toArray⟩] w fun e w'=>e=.returned (.string ⟨(runP s).toArray⟩)/\Below w.heap.size w w':=by
 have HTL:=Lib.hid (textLines_calls s hs w)
 obtain ⟨RP,HRP⟩:=nm ((⟨(runP s).toArray⟩:ByteArray))
 rw [HRP.out]
 obtain ⟨S,HS⟩:=nm ((⟨s.toArray⟩:ByteArray))
 have hsl:s.length=S.size:=by rw [← HS.out]; rfl
 rw [HS.out] at HTL
 rw [HS.out]
 go_enter Tryz.func7,Tryz.ntmps7
 go_wp2_with fail
 refine HTL.out.mono ?_
 rintro e w1 ⟨al,nl,cl,rfl,ll,hw1⟩
 have hll:=ll.len
 by_cases hbig:65536 < s.length
 ·have k1:(65536:Int) < (S.size:Int):=by omega
  have HE:Hid ((⟨#[101,114,114,111,114,32,50,10]⟩:ByteArray)=RP):=by show _=_; rw [← HRP.out,runP_large (.inl hbig)]
  clear ll hll
  go_wp2_with fail
  go_ret
  exact ⟨by rw [← HE.out]; rfl,hw1⟩
 have k1:¬ (65536:Int) < (S.size:Int):=by omega
 by_cases h200:200 < (tlines s).length
 ·have k2:(200:Int) < (nl:Int):=by omega
  have HE:Hid ((⟨#[101,114,114,111,114,32,50,10]⟩:ByteArray)=RP):=by show _=_; rw [← HRP.out,runP_large (.inr h200)]
  clear ll hll
  go_wp2_with fail
  go_ret
  exact ⟨by rw [← HE.out]; rfl,hw1⟩
 have k2:¬ (200:Int) < (nl:Int):=by omega
 have HR:Hid (runP s=(dTo (tlines s) (tlines s).length).2):=runP_not (fun hx=>hx.elim hbig h200)
 have HSH:Hid (∀ i,((tlines s).getD i []).length<=65536):=fun i=>Nat.le_trans (tline_short s i) (by omega)
 have HOK:Hid (∀ k,k<=(tlines s).length->(dTo (tlines s) k).1.ok/\(dTo (tlines s) k).2.length<=k * 5001):=fun k hk=>dTo_ok (tlines s) k hk
 have hn200:nl<=200:=by omega
 have HBN:=Lib.hid (bench_new w1 (hL.below hw1 nr))
 have hal:=Zac w1 (.cells #[.int .i64 1,.int .i64 1,.int .i64 1,.int .u64 1,.int .i64 1,.int .i64 3,.int .i64 6554,.int .i64 0,.int .i64 0,.int .i64 0,.int .i64 0,.slice none 0 0,.string ⟨#[]⟩,.int .i64 0] 53)
 obtain ⟨ls,HLS⟩:=nm (tlines s)
 rw [HLS.out] at HSH HR ll hll HOK
 clear h200 hbig hL HTL
 go_wp2_with fail
 go_loopw [5,6] (fun o i wr=>∃ (k:Nat) (OB:ByteArray),k<=nl/\o=.string OB/\i=.int .i64 k/\Hid (DeskI w1.heap.size w1.heap.size ls w1 k wr OB)) (fun _ i _=>nl - (intOf i).toNat)
 case atStart =>
  refine ⟨0,⟨#[]⟩,Nat.zero_le _,rfl,rfl,?_⟩
  show DeskI _ _ _ _ _ _ _
  unfold DeskI
  rw [dTo_zero]
  exact ⟨rfl,⟨none,0,noEx,HBN.out⟩,hal⟩
 case round =>
  obtain ⟨k,OB,hk,rfl,rfl,HI⟩:=hrel
  obtain ⟨hOB,⟨a,cap,X,hbn⟩,hB⟩:=HI.out
  have HOB:=Lib.hid hOB
  have HBI:=Lib.hid hbn
  have hltB:=hbn.lt
  clear hOB hbn
  by_cases hlt:k < nl
  ·obtain ⟨b1,o1,rfl,g1,c1⟩:=ll.at1b hB nr hlt
   have LW:=Lib.hid (lineWords_calls (ls.getD k []) (Nat.le_trans (HSH.out k) (by omega)) wr)
   obtain ⟨Y,HY⟩:=nm ((⟨(ls.getD k []).toArray⟩:ByteArray))
   rw [HY.out] at c1 LW
   have hkl:k < ls.length:=by omega
   have hok:=HOK.out k (by omega)
   go_wp2_with fail
   refine LW.out.mono ?_
   rintro e w5 ⟨a5,n5,c5,rfl,l5,hw5⟩
   have hn5:=l5.len
   have hcap5:=l5.cap
   have hB5:=hB.trans (hw5.mono hltB)
   have hbn5:=HBI.out.below hw5
   have HFU:Hid (∀ x,x ∈ lwords (ls.getD k [])->x ≠ []):=fun x hx=>lwords_full hx
   have hshw:=lwords_short (ls.getD k [])
   have hlk:=HSH.out k
   have HTS:Hid (silB (lwords (ls.getD k []))=true->dTo ls (k+1)=dTo ls k):=fun e=>by rw [dTo_succ hkl,dLine_sil e]
   have HTN:Hid (silB (lwords (ls.getD k []))=false->dTo ls (k+1)=((dStep (dTo ls k).1 (lwords (ls.getD k []))).d,(dTo ls k).2 ++ ((dStep (dTo ls k).1 (lwords (ls.getD k []))).line ++ [10]))):=fun e=>by rw [dTo_succ hkl,dLine_not e]
   have HSW:Hid (∀ i,((lwords (ls.getD k [])).getD i []).length<=65536):=fun i=>Nat.le_trans (hshw.2 i) hlk
   have hws1:=hshw.1
   obtain ⟨ws,HWS⟩:=nm (lwords (ls.getD k []))
   rw [HWS.out] at l5 hn5 HFU HTS HTN HSW hws1
   have HNXT:Hid (silB ws=true->DeskI w1.heap.size w1.heap.size ls w1 (k+1) w5 OB):=fun e=>by
    unfold DeskI
    rw [HTS.out e]
    exact ⟨HOB.out,⟨a,cap,X,hbn5⟩,hB5⟩
   by_cases h0:n5=0
   ·subst h0
    have hws:ws=[]:=List.length_eq_zero_iff.1 hn5
    have HI2:Hid (DeskI w1.heap.size w1.heap.size ls w1 (k+1) w5 OB):=HNXT.out (by rw [hws]; rfl)
    clear l5 hn5 hws HI hshw
    go_wp2_with fail
    go_roundw
    case rel=>exact ⟨k+1,OB,by omega,by trivial,by go_num,HI2⟩
    case measure=>simp [intOf]; omega
   ·have k3:(0:Int) < (n5:Int):=by omega
    have k4:0 < n5:=by omega
    obtain ⟨b6,o6,rfl,g6,hc6⟩:=l5.at k4
    have c6:=hc6 0 k4
    rw [Nat.add_zero] at c6
    have hxm:ws.getD 0 [] ∈ ws:=by
     rw [List.getD_eq_getElem?_getD,List.getElem?_eq_getElem (by omega)]
     exact List.getElem_mem _
    have hxne:=HFU.out _ hxm
    obtain ⟨c,r,hx⟩:∃ c r,ws.getD 0 []=c :: r:=by
     cases hh:ws.getD 0 [] with
     | nil=>exact absurd hh hxne
     | cons c r=>exact ⟨c,r,rfl⟩
    have HSI:=Lib.hid (sil_of (by omega) hx)
    obtain ⟨X0,HX0⟩:=nm ((⟨(ws.getD 0 []).toArray⟩:ByteArray))
    have hX0:X0.data.toList=c :: r:=by rw [← HX0.out,hx]
    have k5:0 < X0.size:=by rw [← HX0.out]; show 0 < (ws.getD 0 []).length; rw [hx]; simp
    have k6:(0:Int) < (X0.size:Int):=by omega
    obtain ⟨hq,hby⟩:=Zcd hX0 k5
    have hby2:X0[0]=c:=hby
    rw [HX0.out] at c6
    clear hc6 hxm hxne hx hX0 hq hby hshw HI
    by_cases h35:c=35
    ·have k8:((X0[0].toNat:Int) == 35)=true:=by rw [hby2,h35]; rfl
     have k7:((X0[0].toNat:Int) != 35)=false:=by unfold bne; rw [k8]; rfl
     have HI2:Hid (DeskI w1.heap.size w1.heap.size ls w1 (k+1) w5 OB):=HNXT.out (by rw [HSI.out]; exact decide_eq_true h35)
     clear hby2 l5
     go_wp2_with fail
     go_roundw
     case rel=>exact ⟨k+1,OB,by omega,by trivial,by go_num,HI2⟩
     case measure=>simp [intOf]; omega
    ·have k8:((X0[0].toNat:Int) == 35)=false:=by
      rw [hby2,beq_eq_false_iff_ne]
      intro e
      apply h35
      apply UInt8.toNat_inj.1
      have:((35:UInt8).toNat:Int)=35:=rfl
      omega
     have k7:((X0[0].toNat:Int) != 35)=true:=by unfold bne; rw [k8]; rfl
     have hsil:silB ws=false:=by rw [HSI.out]; exact decide_eq_false h35
     have HT2:=Lib.hid (HTN.out hsil)
     have hwc:=words_cons (ws:=ws) (by omega)
     have hdr:Below w5.heap.size w5 w5.drew:=br.drew
     have hbnD:=hbn5.below hdr
     have HOB5:=Lib.hid (outB_step hok.1 ws)
     have HLN:Hid (∀ aa,(1 < n5->aa=some ⟨b6,o6+1,none⟩)->Calls Tryz.prog 21 #[.pointer (some ⟨w1.heap.size,0,none⟩),.string X0,.slice aa (n5 - 1) (c5 - 1)] w5.drew fun e w'=>BnR w1.heap.size w1.heap.size w5.drew (dStep (dTo ls k).1 ws) e w'):=fun aa ha=>by
      have hlr:=(l5.below hdr nr).rest (k:=1) (by omega) aa ha
      have L:=line_calls hbnD (ws.getD 0 []) (Nat.le_trans (HSW.out 0) (by omega)) aa (n5 - 1) (c5 - 1) (ws.drop 1) hlr (by omega) (fun i=>Zau (B:=70000) (fun j=>Nat.le_trans (HSW.out j) (by omega)) 1 i)
      rw [HX0.out,← hwc] at L
      exact L
     obtain ⟨OD,HOD⟩:=nm (dStep (dTo ls k).1 ws)
     rw [HOD.out] at HLN HT2 HOB5
     have hls:=Out.line_short HOB5.out
     obtain ⟨LN,HLNB0⟩:∃ X:ByteArray,(⟨OD.line.toArray⟩:ByteArray)=X:=⟨_,rfl⟩
     have HLNB:=Lib.hid HLNB0
     have hLN:LN.size<=5000:=by rw [← HLNB0]; exact hls
     have hOBs:OB.size<=1000200:=by
      rw [← HOB.out]
      show (dTo ls k).2.length<=_
      have:=hok.2
      omega
     have z1:¬ 9223372036854775807 < LN.size+1:=by omega
     have HCAT:Hid ((⟨((dTo ls k).2 ++ (OD.line ++ [10])).toArray⟩:ByteArray)=OB ++ (LN ++ ⟨#[10]⟩)):=by
      show _=_
      rw [← HOB.out,← HLNB.out,Zcc,arr_cat2]
     have z2:¬ 9223372036854775807 < OB.size+(LN ++ ⟨#[10]⟩).size:=by
      rw [show (LN ++ ⟨#[10]⟩:ByteArray).size=LN.size+1 from ByteArray.size_append]
      omega
     have z3:¬ 9223372036854775807 < OB.size+(LN.size+1):=by omega
     have n1:(1:Int)<=(n5:Int):=by omega
     have n2:(n5:Int)<=(c5:Int):=by omega
     clear hby2 hls HLNB0 hok hbn5 hbnD HNXT l5
     by_cases hc1:c5=1
     ·obtain rfl:n5=1:=by omega
      subst hc1
      have LC:=Lib.hid (HLN.out (some ⟨b6,o6,none⟩) (fun hx=>by omega))
      rw [Nat.sub_self] at LC
      clear HLN
      go_wp2_with fail
      refine wp_region_held_drew (S:=fun _=>True) (by kernel_rfl) True.intro (fun hHeld=>?_)
      refine tk 0 (h:=?_)
      refine tk 1 (h:=?_)
      refine tk 2 (h:=?_)
      refine tk 3 (h:=?_)
      refine tk 5 (h:=?_)
      refine tk 6 (h:=?_)
      refine rd 4 (h:=fun K hK=>?_)
      clear hHeld
      go_simp
      refine hK.out _ _ True.intro (fun hHeld=>?_)
      clear hK K
      try simp only [Act.put,List.setIfInBounds_toArray,List.set_cons_zero,List.set_cons_succ]
      refine rd 7 (h:=fun K hK=>?_)
      clear hHeld
      go_simp
      (go_at_call 21; refine LC.out.mono ?_; rintro e w6 ⟨rfl,hk6,hb6⟩; have HI6:Hid (DeskI w1.heap.size w1.heap.size ls w1 (k+1) w6 (OB ++ (LN ++ ⟨#[10]⟩))):=(by show DeskI _ _ _ _ _ _ _; unfold DeskI; rw [HT2.out]; exact ⟨HCAT.out,hk6,hB5.trans ((hdr.mono (Nat.le_trans hltB hw5.size)).trans hb6)⟩); rw [HLNB.out])
      go_wp2_with fail
      refine hK.out _ _ True.intro (fun hHeld=>?_)
      clear hK K
      try simp only [Act.put,List.setIfInBounds_toArray,List.set_cons_zero,List.set_cons_succ]
      refine tk 8 (h:=?_)
      refine tk 9 (h:=?_)
      refine tk 10 (h:=?_)
      refine wpAnyH_done (by kernel_rfl) ?_ _
      go_wp2_with fail
      go_roundw
      case rel=>exact ⟨k+1,_,by omega,by trivial,by go_num,HI6⟩
      case measure=>simp [intOf]; omega
     ·have n5':¬ c5=1:=hc1
      have LC:=Lib.hid (HLN.out (some ⟨b6,o6+1,none⟩) (fun _=>rfl))
      clear HLN
      go_wp2_with fail
      refine wp_region_held_drew (S:=fun _=>True) (by kernel_rfl) True.intro (fun hHeld=>?_)
      refine tk 0 (h:=?_)
      refine tk 1 (h:=?_)
      refine tk 2 (h:=?_)
      refine tk 3 (h:=?_)
      refine tk 5 (h:=?_)
      refine tk 6 (h:=?_)
      refine rd 4 (h:=fun K hK=>?_)
      clear hHeld
      go_simp
      refine hK.out _ _ True.intro (fun hHeld=>?_)
      clear hK K
      try simp only [Act.put,List.setIfInBounds_toArray,List.set_cons_zero,List.set_cons_succ]
      refine rd 7 (h:=fun K hK=>?_)
      clear hHeld
      go_simp
      (go_at_call 21; refine LC.out.mono ?_; rintro e w6 ⟨rfl,hk6,hb6⟩; have HI6:Hid (DeskI w1.heap.size w1.heap.size ls w1 (k+1) w6 (OB ++ (LN ++ ⟨#[10]⟩))):=(by show DeskI _ _ _ _ _ _ _; unfold DeskI; rw [HT2.out]; exact ⟨HCAT.out,hk6,hB5.trans ((hdr.mono (Nat.le_trans hltB hw5.size)).trans hb6)⟩); rw [HLNB.out])
      go_wp2_with fail
      refine hK.out _ _ True.intro (fun hHeld=>?_)
      clear hK K
      try simp only [Act.put,List.setIfInBounds_toArray,List.set_cons_zero,List.set_cons_succ]
      refine tk 8 (h:=?_)
      refine tk 9 (h:=?_)
      refine tk 10 (h:=?_)
      refine wpAnyH_done (by kernel_rfl) ?_ _
      go_wp2_with fail
      go_roundw
      case rel=>exact ⟨k+1,_,by omega,by trivial,by go_num,HI6⟩
      case measure=>simp [intOf]; omega
  ·obtain rfl:k=nl:=by omega
   have HE:Hid (OB=RP):=by
    show _=_
    rw [← HOB.out,← HRP.out,HR.out,hll]
   go_wp2_with fail
   go_ret
   exact ⟨by rw [HE.out]; rfl,hw1.trans (hB.mono hw1.size)⟩
end
theorem deskSays_core (s:List UInt8) (hs:s.length<=1048576) (w:World) (hL:LD w) :
  Calls Tryz.prog 3 #[.string ⟨s.toArray⟩] w fun e w'=>e=.returned (.bool true)/\Below w.heap.size w w':=by
 have HR:=Lib.hid (run_calls s (by omega) w hL)
 have HD:Hid (∀ q,Below w.heap.size w q->Calls Tryz.prog 7 #[.string ⟨s.toArray⟩] q fun e w'=>e=.returned (.string ⟨(runP s).toArray⟩)/\Below q.heap.size q w'):=fun q hq=>rdesk_calls s hs q (hL.below hq nr)
 have hc:((⟨(runP s).toArray⟩:ByteArray).toList == (⟨(runP s).toArray⟩:ByteArray).toList)=true:=by rw [strEq]; exact decide_eq_true rfl
 obtain ⟨O,HO⟩:=nm ((⟨(runP s).toArray⟩:ByteArray))
 obtain ⟨S,HS⟩:=nm ((⟨s.toArray⟩:ByteArray))
 rw [HO.out] at HR HD hc
 rw [HS.out] at HR HD
 rw [HS.out]
 go_enter Tryz.func3,Tryz.ntmps3
 go_wp2_with fail
 refine HR.out.mono ?_
 rintro e w1 ⟨rfl,hw1⟩
 go_wp2_with fail
 refine (HD.out _ hw1).mono ?_
 rintro e w2 ⟨rfl,hw2⟩
 go_wp2_with fail
 go_ret
 exact ⟨rfl,hw1.trans (hw2.mono hw1.size)⟩
end Go.Proofs.YthmiojmlaclgaaaGreatDoor.Fx
