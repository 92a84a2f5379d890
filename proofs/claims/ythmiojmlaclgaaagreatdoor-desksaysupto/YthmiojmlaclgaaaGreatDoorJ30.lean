/- What the law stands on: RefDkA. -/
import Derived.Test.YthmiojmlaclgaaaGreatDoorJ00
import Derived.Test.YthmiojmlaclgaaaGreatDoorJ28
import Derived.Test.YthmiojmlaclgaaaGreatDoorJ22
set_option maxRecDepth 100000
set_option maxHeartbeats 12800000
namespace Go.Proofs.YthmiojmlaclgaaaGreatDoor.Fx
open Go.RowKit
theorem pieces10_calls (S:ByteArray) (s:List UInt8) (w:World) (hS:Hid (S.data.toList=s)) (hs:S.size<=1048576) :
  Calls Tryz.prog 24 #[.string S,.int .u8 10] w fun e w'=>∃ g n c,e=.returned (.slice (some ⟨g,0,none⟩) n c)/\LstS w' (some ⟨g,0,none⟩) n c (wordsOf 10 s)/\Below w.heap.size w w':=by
 have hsl:s.length=S.size:=by rw [← hS.out]; rfl
 have O0:OwnX 9 w.heap.size (w.alloc (.cells #[.string ⟨#[]⟩] 9)) (.slice (some ⟨w.heap.size,0,none⟩) 1 1) ((wordsOf 10 (s.take 0)).map sv):=OwnX.lits 9 w [.string ⟨#[]⟩] (by simp)
 have HWl:Hid (∀ q,(wordsOf 10 (s.take q)).length<=S.size+1):=fun q=>by
  have h:=(ZaH 10 (s.take q)).1
  have h2:(s.take q).length<=s.length:=by rw [List.length_take]; omega
  omega
 have HWp:Hid (∀ q,0 < (wordsOf 10 (s.take q)).length):=fun q=>by simp [wordsOf]
 go_enter Tryz.func24,Tryz.ntmps24
 go_wp2
 go_loopw [5,6] (fun v i wr=>∃ q:Nat,q<=S.size/\i=.int .i64 q/\OwnX 9 w.heap.size wr v ((wordsOf 10 (s.take q)).map sv)/\Below w.heap.size w wr) (fun _ i _=>S.size - (intOf i).toNat)
 case atStart=>exact ⟨0,Nat.zero_le _,rfl,O0,br.alloc nr _⟩
 case round =>
  obtain ⟨q,hq,rfl,OR,TR⟩:=hrel
  by_cases hlt:q < S.size
  ·have q0:(0:Int)<=(q:Int):=by omega
   have q1:(q:Int) < (S.size:Int):=by omega
   obtain ⟨hqs,hb⟩:=Zcd hS.out hlt
   have HTk:Hid (s.take (q+1)=s.take q ++ [s[q]]):=by show _=_; rw [List.take_add_one,List.getElem?_eq_getElem hqs,Option.toList_some]
   have HX:=Lib.hid (ext_one hS.out hqs)
   generalize s[q]=c at *
   have hwl:=HWl.out q
   have hwp:=HWp.out q
   by_cases hc:c=10
   ·have hcb:((S[q].toNat:Int) == 10)=true:=by rw [hb,hc]; rfl
    have HN:Hid ((wordsOf 10 (s.take q)).map sv ++ [.string ⟨#[]⟩]=(wordsOf 10 (s.take (q+1))).map sv):=by
     show _=_
     rw [HTk.out,ZbJ,if_pos hc,List.map_append]
     rfl
    have T1:Below wr.heap.size wr (wr.alloc (.cells #[.string ⟨#[]⟩] 9)):=br.alloc nr _
    have O1:=OR.below T1
    have T2:=TR.trans (T1.mono TR.size)
    have hml:((wordsOf 10 (s.take q)).map sv).length=(wordsOf 10 (s.take q)).length:=List.length_map _
    clear hb hc
    go_wp2_with (at_builtin; refine ZaJ Tryz.underlying24 infoStr rfl (by decide) (by rfl) _ _ (by rfl) w.heap.size _ ((wordsOf 10 (s.take q)).map sv) (.string ⟨#[]⟩) wr.heap.size w (by rfl) (by rfl) (by exact O1) (by exact Zaf _ _ _) (by rfl) (by rw [hml]; omega) (by exact T2.size) (by exact T2) ?_; intro v9 w9 O9 T9 _ _)
    go_roundw
    case rel=>exact ⟨q+1,by omega,by go_num,O9.congr HN.out,T9⟩
    case measure=>simp [intOf]; omega
   ·have hcb:((S[q].toNat:Int) == 10)=false:=by
     rw [hb,beq_eq_false_iff_ne]
     intro e
     apply hc
     apply UInt8.toNat_inj.1
     have:((10:UInt8).toNat:Int)=10:=rfl
     omega
    obtain ⟨g,cp,rfl,hg,hgl,hcap,hcells⟩:=OR.row (by simpa using hwp)
    have hml:((wordsOf 10 (s.take q)).map sv).length=(wordsOf 10 (s.take q)).length:=List.length_map _
    obtain ⟨M,hM⟩:∃ M,(wordsOf 10 (s.take q)).length=M+1:=⟨(wordsOf 10 (s.take q)).length - 1,by omega⟩
    obtain ⟨N,HNN⟩:=nm (((wordsOf 10 (s.take q)).map sv).length)
    have hNM:N=M+1:=by rw [← HNN.out,hml,hM]
    obtain ⟨L,HL⟩:=nm (α:=List UInt8) ((wordsOf 10 (s.take q)).getLastD [])
    have hsetw:(wordsOf 10 (s.take q)).dropLast ++ [L ++ [c]]=(wordsOf 10 (s.take (q+1))):=by rw [HTk.out,ZbJ,if_neg hc,HL.out]
    have hlast:(wordsOf 10 (s.take q))[M]?=some L:=by
     rw [← HL.out,List.getLastD_eq_getLast?,List.getLast?_eq_getElem?,hM,Nat.add_sub_cancel]
     cases h:(wordsOf 10 (s.take q))[M]? with
     | none=>rw [List.getElem?_eq_none_iff] at h; omega
     | some x=>rfl
    have HSet:Hid (((wordsOf 10 (s.take q)).map sv).set M (sv (L ++ [c]))=(wordsOf 10 (s.take (q+1))).map sv):=by
     show _=_
     rw [← hsetw,← List.map_set]
     congr 1
     apply List.ext_getElem?
     intro j
     rw [List.getElem?_set]
     by_cases hj:M=j
     ·subst hj
      rw [if_pos rfl,if_pos (by omega),List.getElem?_append_right (by simp; omega)]
      simp [hM]
     ·rw [if_neg hj]
      by_cases hj2:j < M
      ·rw [List.getElem?_append_left (by simp; omega),List.getElem?_dropLast,if_pos (by omega)]
      ·rw [List.getElem?_eq_none (by omega),List.getElem?_eq_none (by simp; omega)]
    have cM:wr.cell? ⟨g,M,none⟩=some (sv L):=hcells M _ (by rw [List.getElem?_map,hlast]; rfl)
    have fM:wr.frozen? ⟨g,M,none⟩=false:=World.ownsRow.frozenAt (show wr.ownsRow w.heap.size 9 1 (.slice (some ⟨g,0,none⟩) ((wordsOf 10 (s.take q)).map sv).length cp) ((wordsOf 10 (s.take q)).map sv).length ((wordsOf 10 (s.take q)).map sv) from OR) M
    have OS:=fun u=>World.ownsRow.stored (show wr.ownsRow w.heap.size 9 1 (.slice (some ⟨g,0,none⟩) ((wordsOf 10 (s.take q)).map sv).length cp) ((wordsOf 10 (s.take q)).map sv).length ((wordsOf 10 (s.take q)).map sv) from OR) M u
    have HOS:Hid (OwnX 9 w.heap.size (wr.setCell ⟨g,M,none⟩ (sv (L ++ [c]))) (.slice (some ⟨g,0,none⟩) N cp) ((wordsOf 10 (s.take (q+1))).map sv)):=by
     have h:=(OS (sv (L ++ [c]))).1
     rw [HSet.out,HNN.out] at h
     unfold OwnX
     rw [← HSet.out,List.length_set,HNN.out,HSet.out]
     exact h
    have TS:Below w.heap.size w (wr.setCell ⟨g,M,none⟩ (sv (L ++ [c]))):=TR.setCell hg _
    rw [HNN.out] at hcap
    have hLl:L.length<=S.size:=by
     have h:=(ZaH 10 (s.take q)).2 M
     have h2:(s.take q).length<=s.length:=by rw [List.length_take]; omega
     rw [List.getD_eq_getElem?_getD,hlast] at h
     simp at h
     omega
    obtain ⟨LB,HLB⟩:=nm ((⟨L.toArray⟩:ByteArray))
    obtain ⟨Q1,HQ1⟩:=nm (q+1)
    have hq1:Q1=q+1:=HQ1.out.symm
    have HXc:Hid (S.extract q Q1=⟨#[c]⟩):=by show _=_; rw [hq1]; exact HX.out
    obtain ⟨CB,HCB⟩:=nm ((⟨#[c]⟩:ByteArray))
    have x1:S.extract q Q1=CB:=by rw [HXc.out]; exact HCB.out
    have hcs:CB.size=1:=by rw [← HCB.out]; rfl
    have hLs:LB.size=L.length:=by rw [← HLB.out]; rfl
    have HRes:Hid (Value.string (LB ++ CB)=sv (L ++ [c])):=by show _=_; rw [← HLB.out,← HCB.out,Zcc]; rfl
    have w1:IntKind.i64.wrap ((N:Int) - 1)=(M:Int):=by rw [ZaK _ (by omega) (by omega)]; omega
    have w2:IntKind.i64.wrap ((q:Int)+1)=(Q1:Int):=by rw [ZaK _ (by omega) (by omega)]; omega
    have b0:(0:Int)<=(M:Int):=by omega
    have b1:(M:Int) < (N:Int):=by omega
    have b2:M < N:=by omega
    have b3:(q:Int)<=(Q1:Int):=by omega
    have b4:(Q1:Int)<=(S.size:Int):=by omega
    have b5:q<=Q1:=by omega
    have b6:Q1<=S.size:=by omega
    have b7:¬ 9223372036854775807 < LB.size+CB.size:=by omega
    have b8:¬ 9223372036854775807 < LB.size+1:=by omega
    rw [sv,HLB.out] at cM
    rw [HNN.out]
    have hQle:Q1<=S.size:=b6
    clear hb hc OS hsetw hlast hcells hwl hwp hM OR hml hNM hq1 hLs
    go_wp2
    go_region
    all_goals
     rw [HRes.out]
     go_wp2
     go_roundw
     case rel=>exact ⟨Q1,hQle,by rw [← HQ1.out],by rw [← HQ1.out]; exact HOS.out,Below.drew TS⟩
     case measure=>simp [intOf]; have:=HQ1.out; omega
  ·obtain rfl:q=S.size:=by omega
   have hwp:=HWp.out S.size
   rw [List.take_of_length_le (by omega)] at OR hwp
   obtain ⟨g,cp,rfl,hg,LS⟩:=OR.strs hwp
   go_wp2
   go_ret
   exact ⟨g,_,cp,rfl,LS,TR⟩
theorem textLines_calls (s:List UInt8) (hs:s.length<=1048576) (w:World) :
  Calls Tryz.prog 10 #[.string ⟨s.toArray⟩] w fun e w'=>∃ a n c,e=.returned (.slice a n c)/\LstS w' a n c (tlines s)/\Below w.heap.size w w':=by
 have SP:=Lib.hid (pieces10_calls ⟨s.toArray⟩ s w rfl hs)
 obtain ⟨X,HX⟩:=nm ((⟨s.toArray⟩:ByteArray))
 have HW:=ZaH 10 s
 have hne:=wordsOf_ne 10 s
 have HTL:Hid (tlines s=if (wordsOf 10 s).getLastD []=[] then (wordsOf 10 s).dropLast else wordsOf 10 s):=rfl
 rw [HX.out] at SP
 rw [HX.out]
 go_enter Tryz.func10,Tryz.ntmps10
 go_wp2_with fail
 refine SP.out.mono ?_
 rintro e w1 ⟨g,n,c,rfl,ls,hw1⟩
 have hln:=ls.len
 have hcap:=ls.cap
 generalize wordsOf 10 s=W at *
 have hn1:1<=n:=by
  cases W with
  | nil=>exact absurd rfl hne
  | cons x y=>simp at hln; omega
 have hn2:n<=1048577:=by omega
 obtain ⟨m,rfl⟩:∃ m,n=m+1:=⟨n - 1,by omega⟩
 obtain ⟨b,off,e0,hb,hc⟩:=ls.at (by omega)
 simp only [Option.some.injEq,Addr.mk.injEq,and_true] at e0
 obtain ⟨rfl,rfl⟩:=e0
 have c1:=hc m (by omega)
 rw [Nat.zero_add] at c1
 clear hc SP HW
 have elast:W.getLastD []=W.getD m []:=by rw [getLastD_at,hln]; rfl
 have edrop:W.dropLast=W.take m:=by rw [List.dropLast_eq_take,hln]; rfl
 rw [elast,edrop] at HTL
 obtain ⟨Y,HY⟩:=nm ((⟨(W.getD m []).toArray⟩:ByteArray))
 have lp:=ls.pre (m:=m) (by omega)
 have q1:(m:Int) < (m:Int)+1:=by omega
 have q2:(m:Int)<=(m:Int)+1:=by omega
 have q3:(0:Int)<=(m:Int):=by omega
 have q4:(m:Int)<=(c:Int):=by omega
 by_cases hl:W.getD m []=[]
 ·have hcm:Y.toList.isEmpty=true:=by rw [← HY.out,strEmpty]; exact decide_eq_true hl
  rw [if_pos hl] at HTL
  rw [HY.out] at c1
  go_wp2_with fail
  go_ret
  exact ⟨_,_,_,rfl,by rw [HTL.out]; exact lp,hw1⟩
 ·have hcm:Y.toList.isEmpty=false:=by rw [← HY.out,strEmpty]; exact decide_eq_false hl
  rw [if_neg hl] at HTL
  rw [HY.out] at c1
  go_wp2_with fail
  go_ret
  exact ⟨_,_,_,rfl,by rw [HTL.out]; exact ls,hw1⟩
theorem lineWords_calls (l:List UInt8) (hl:l.length<=1048576) (w:World) :
  Calls Tryz.prog 11 #[.string ⟨l.toArray⟩] w fun e w'=>∃ a n c,e=.returned (.slice a n c)/\LstS w' a n c (lwords l)/\Below w.heap.size w w':=by
 have SP:=Lib.hid (pieces_calls ⟨l.toArray⟩ l w rfl hl)
 obtain ⟨X,HX⟩:=nm ((⟨l.toArray⟩:ByteArray))
 have HW:=ZaH 32 l
 have HLW:Hid (lwords l=(wordsOf 32 l).filter (fun p => !p.isEmpty)):=rfl
 rw [HX.out] at SP
 rw [HX.out]
 go_enter Tryz.func11,Tryz.ntmps11
 go_wp2_with fail
 refine SP.out.mono ?_
 rintro e w1 ⟨g,n,c,rfl,ls,hw1⟩
 have hln:=ls.len
 generalize wordsOf 32 l=W at *
 have hn2:n<=1048577:=by omega
 clear HW SP
 go_wp2_with fail
 go_loopw [3,5] (fun v i wr=>∃ k:Nat,k<=n/\i=.int .i64 k/\OwnX 9 w1.heap.size wr v (((W.take k).filter (fun p => !p.isEmpty)).map sv)/\Below w1.heap.size w1 wr) (fun _ i _=>n - (intOf i).toNat)
 case atStart=>exact ⟨0,Nat.zero_le _,rfl,OwnX.nil _ _ _,br⟩
 case round =>
  obtain ⟨k,hk,rfl,hO,hB⟩:=hrel
  by_cases hlt:k < n
  ·obtain ⟨b1,o1,e1,g1,c1⟩:=ls.at1b hB nr hlt
   simp only [Option.some.injEq,Addr.mk.injEq,and_true] at e1
   obtain ⟨rfl,rfl⟩:=e1
   rw [Nat.zero_add] at c1
   have HF:=Lib.hid (filter_snoc (W:=W) (k:=k) (by omega))
   have hfl:((W.take k).filter (fun p => !p.isEmpty)).length<=1048577:=Nat.le_trans (List.length_filter_le _ _) (by rw [List.length_take]; omega)
   obtain ⟨F,HFL⟩:=nm ((W.take k).filter (fun p => !p.isEmpty))
   rw [HFL.out] at hO HF hfl
   by_cases he:W.getD k []=[]
   ·rw [if_pos he,List.append_nil] at HF
    obtain ⟨Y,HY⟩:=nm ((⟨(W.getD k []).toArray⟩:ByteArray))
    have hcm:Y.toList.isEmpty=true:=by rw [← HY.out,strEmpty]; exact decide_eq_true he
    rw [HY.out] at c1
    go_wp2_with fail
    go_roundw
    case rel=>exact ⟨k+1,by omega,by go_num,by rw [HF.out]; exact hO,hB⟩
    case measure=>simp [intOf]; omega
   ·rw [if_neg he] at HF
    obtain ⟨y,HYL⟩:=nm (W.getD k [])
    rw [HYL.out] at HF he c1
    have hcm:(⟨y.toArray⟩:ByteArray).toList.isEmpty=false:=by rw [strEmpty]; exact decide_eq_false he
    obtain ⟨Y,HY⟩:=nm ((⟨y.toArray⟩:ByteArray))
    rw [HY.out] at c1 hcm
    have hle:=hB.size
    go_wp2_with (at_builtin; refine ZaJ (T:=9) Tryz.underlying24 infoStr rfl (by decide) (by rfl) _ _ (by rfl) w1.heap.size _ (F.map sv) (.string Y) wr.heap.size w1 (by rfl) (by rfl) (by exact hO.below (Zac _ _)) (by exact Zaf _ _ _) (by rfl) (by rw [List.length_map]; omega) (by simp; omega) (by exact hB.alloc hle _) ?_; intro v2 w2 hO2 hB2 _ _)
    go_roundw
    case rel=>exact ⟨k+1,by omega,by go_num,by rw [HF.out,List.map_append,List.map_singleton]; unfold sv at hO2 ⊢; rw [HY.out]; exact hO2,hB2⟩
    case measure=>simp [intOf]; omega
  ·obtain rfl:k=n:=by omega
   have HO:=hO
   rw [List.take_of_length_le (by omega)] at HO
   obtain ⟨a2,c2,rfl,hl2⟩:=HO.lstS
   rw [← HLW.out] at hl2
   rw [← HLW.out]
   go_wp2_with fail
   go_ret
   exact ⟨_,_,_,rfl,hl2,hw1.trans (hB.mono hw1.size)⟩
end Go.Proofs.YthmiojmlaclgaaaGreatDoor.Fx
