/- What the law stands on: RefStB RefStC RefStD RefStF RefStA. -/
import Derived.Test.YthmiojmlaclgaaaGreatDoorJ00
import Derived.Test.YthmiojmlaclgaaaGreatDoorJ21
import Derived.Test.YthmiojmlaclgaaaGreatDoorJ17
set_option maxRecDepth 100000
set_option maxHeartbeats 12800000
namespace Go.Proofs.YthmiojmlaclgaaaGreatDoor.Fx
open Go.RowKit
theorem ZbJ (b:UInt8) (l:List UInt8) (c:UInt8):wordsOf b (l ++ [c])=if c=b then wordsOf b l ++ [[]] else (wordsOf b l).dropLast ++ [(wordsOf b l).getLastD [] ++ [c]]:=by
 unfold wordsOf
 rw [ps_snoc,psStep]
 split
 ·simp
 ·simp
theorem Zcd {S:ByteArray} {s:List UInt8} (hS:S.data.toList=s) {q:Nat} (h:q < S.size):∃ hq:q < s.length,S[q]'h=s[q]:=by
 subst hS
 exact ⟨h,rfl⟩
theorem ext_one {S:ByteArray} {s:List UInt8} (hS:S.data.toList=s) {q:Nat} (h:q < s.length):S.extract q (q+1)=⟨#[s[q]]⟩:=by
 subst hS
 apply Go.WideShapes.bytes_inj
 rw [Lib.extract_data]
 apply List.ext_getElem?
 intro j
 rcases j with _ | j
 ·simp
 ·simp
  omega
theorem pieces_calls (S:ByteArray) (s:List UInt8) (w:World) (hS:Hid (S.data.toList=s)) (hs:S.size<=1048576) :
  Calls Tryz.prog 24 #[.string S,.int .u8 32] w fun e w'=>∃ g n c,e=.returned (.slice (some ⟨g,0,none⟩) n c)/\LstS w' (some ⟨g,0,none⟩) n c (wordsOf 32 s)/\Below w.heap.size w w':=by
 have hsl:s.length=S.size:=by rw [← hS.out]; rfl
 have O0:OwnX 9 w.heap.size (w.alloc (.cells #[.string ⟨#[]⟩] 9)) (.slice (some ⟨w.heap.size,0,none⟩) 1 1) ((wordsOf 32 (s.take 0)).map sv):=OwnX.lits 9 w [.string ⟨#[]⟩] (by simp)
 have HWl:Hid (∀ q,(wordsOf 32 (s.take q)).length<=S.size+1):=fun q=>by
  have h:=(ZaH 32 (s.take q)).1
  have h2:(s.take q).length<=s.length:=by rw [List.length_take]; omega
  omega
 have HWp:Hid (∀ q,0 < (wordsOf 32 (s.take q)).length):=fun q=>by simp [wordsOf]
 go_enter Tryz.func24,Tryz.ntmps24
 go_wp2
 go_loopw [5,6] (fun v i wr=>∃ q:Nat,q<=S.size/\i=.int .i64 q/\OwnX 9 w.heap.size wr v ((wordsOf 32 (s.take q)).map sv)/\Below w.heap.size w wr) (fun _ i _=>S.size - (intOf i).toNat)
 case atStart=>exact ⟨0,Nat.zero_le _,rfl,O0,br.alloc nr _⟩
 case round =>
  obtain ⟨q,hq,rfl,OR,TR⟩:=hrel
  by_cases hlt:q < S.size
  ·have q0:(0:Int)<=(q:Int):=by omega
   have q1:(q:Int) < (S.size:Int):=by omega
   obtain ⟨hqs,hb⟩:=Zcd hS.out hlt
   have HTk:Hid (s.take (q+1)=s.take q ++ [s[q]]):=by show _=_; rw [List.take_add_one,List.getElem?_eq_getElem hqs,Option.toList_some]
   have HX:=Lib.hid (ext_one hS.out hqs)
   generalize s[q]=c at *
   have hwl:=HWl.out q
   have hwp:=HWp.out q
   by_cases hc:c=32
   ·have hcb:((S[q].toNat:Int) == 32)=true:=by rw [hb,hc]; rfl
    have HN:Hid ((wordsOf 32 (s.take q)).map sv ++ [.string ⟨#[]⟩]=(wordsOf 32 (s.take (q+1))).map sv):=by
     show _=_
     rw [HTk.out,ZbJ,if_pos hc,List.map_append]
     rfl
    have T1:Below wr.heap.size wr (wr.alloc (.cells #[.string ⟨#[]⟩] 9)):=br.alloc nr _
    have O1:=OR.below T1
    have T2:=TR.trans (T1.mono TR.size)
    have hml:((wordsOf 32 (s.take q)).map sv).length=(wordsOf 32 (s.take q)).length:=List.length_map _
    clear hb hc
    go_wp2_with (at_builtin; refine ZaJ Tryz.underlying24 infoStr rfl (by decide) (by rfl) _ _ (by rfl) w.heap.size _ ((wordsOf 32 (s.take q)).map sv) (.string ⟨#[]⟩) wr.heap.size w (by rfl) (by rfl) (by exact O1) (by exact Zaf _ _ _) (by rfl) (by rw [hml]; omega) (by exact T2.size) (by exact T2) ?_; intro v9 w9 O9 T9 _ _)
    go_roundw
    case rel=>exact ⟨q+1,by omega,by go_num,O9.congr HN.out,T9⟩
    case measure=>simp [intOf]; omega
   ·have hcb:((S[q].toNat:Int) == 32)=false:=by
     rw [hb,beq_eq_false_iff_ne]
     intro e
     apply hc
     apply UInt8.toNat_inj.1
     have:((32:UInt8).toNat:Int)=32:=rfl
     omega
    obtain ⟨g,cp,rfl,hg,hgl,hcap,hcells⟩:=OR.row (by simpa using hwp)
    have hml:((wordsOf 32 (s.take q)).map sv).length=(wordsOf 32 (s.take q)).length:=List.length_map _
    obtain ⟨M,hM⟩:∃ M,(wordsOf 32 (s.take q)).length=M+1:=⟨(wordsOf 32 (s.take q)).length - 1,by omega⟩
    obtain ⟨N,HNN⟩:=nm (((wordsOf 32 (s.take q)).map sv).length)
    have hNM:N=M+1:=by rw [← HNN.out,hml,hM]
    obtain ⟨L,HL⟩:=nm (α:=List UInt8) ((wordsOf 32 (s.take q)).getLastD [])
    have hsetw:(wordsOf 32 (s.take q)).dropLast ++ [L ++ [c]]=(wordsOf 32 (s.take (q+1))):=by rw [HTk.out,ZbJ,if_neg hc,HL.out]
    have hlast:(wordsOf 32 (s.take q))[M]?=some L:=by
     rw [← HL.out,List.getLastD_eq_getLast?,List.getLast?_eq_getElem?,hM,Nat.add_sub_cancel]
     cases h:(wordsOf 32 (s.take q))[M]? with
     | none=>rw [List.getElem?_eq_none_iff] at h; omega
     | some x=>rfl
    have HSet:Hid (((wordsOf 32 (s.take q)).map sv).set M (sv (L ++ [c]))=(wordsOf 32 (s.take (q+1))).map sv):=by
     show _=_
     rw [← hsetw,← List.map_set]
     congr 1
     apply List.ext_getElem?
     intro j
     rw [List.getElem?_set]
     by_cases hj:M=j
     ·subst hj
      rw [if_pos rfl,if_pos (by omega),List.getElem?_append_right (by simp; omega)]
      simp [hM]
     ·rw [if_neg hj]
      by_cases hj2:j < M
      ·rw [List.getElem?_append_left (by simp; omega),List.getElem?_dropLast,if_pos (by omega)]
      ·rw [List.getElem?_eq_none (by omega),List.getElem?_eq_none (by simp; omega)]
    have cM:wr.cell? ⟨g,M,none⟩=some (sv L):=hcells M _ (by rw [List.getElem?_map,hlast]; rfl)
    have fM:wr.frozen? ⟨g,M,none⟩=false:=World.ownsRow.frozenAt (show wr.ownsRow w.heap.size 9 1 (.slice (some ⟨g,0,none⟩) ((wordsOf 32 (s.take q)).map sv).length cp) ((wordsOf 32 (s.take q)).map sv).length ((wordsOf 32 (s.take q)).map sv) from OR) M
    have OS:=fun u=>World.ownsRow.stored (show wr.ownsRow w.heap.size 9 1 (.slice (some ⟨g,0,none⟩) ((wordsOf 32 (s.take q)).map sv).length cp) ((wordsOf 32 (s.take q)).map sv).length ((wordsOf 32 (s.take q)).map sv) from OR) M u
    have HOS:Hid (OwnX 9 w.heap.size (wr.setCell ⟨g,M,none⟩ (sv (L ++ [c]))) (.slice (some ⟨g,0,none⟩) N cp) ((wordsOf 32 (s.take (q+1))).map sv)):=by
     have h:=(OS (sv (L ++ [c]))).1
     rw [HSet.out,HNN.out] at h
     unfold OwnX
     rw [← HSet.out,List.length_set,HNN.out,HSet.out]
     exact h
    have TS:Below w.heap.size w (wr.setCell ⟨g,M,none⟩ (sv (L ++ [c]))):=TR.setCell hg _
    rw [HNN.out] at hcap
    have hLl:L.length<=S.size:=by
     have h:=(ZaH 32 (s.take q)).2 M
     have h2:(s.take q).length<=s.length:=by rw [List.length_take]; omega
     rw [List.getD_eq_getElem?_getD,hlast] at h
     simp at h
     omega
    obtain ⟨LB,HLB⟩:=nm ((⟨L.toArray⟩:ByteArray))
    obtain ⟨Q1,HQ1⟩:=nm (q+1)
    have hq1:Q1=q+1:=HQ1.out.symm
    have HXc:Hid (S.extract q Q1=⟨#[c]⟩):=by show _=_; rw [hq1]; exact HX.out
    obtain ⟨CB,HCB⟩:=nm ((⟨#[c]⟩:ByteArray))
    have x1:S.extract q Q1=CB:=by rw [HXc.out]; exact HCB.out
    have hcs:CB.size=1:=by rw [← HCB.out]; rfl
    have hLs:LB.size=L.length:=by rw [← HLB.out]; rfl
    have HRes:Hid (Value.string (LB ++ CB)=sv (L ++ [c])):=by show _=_; rw [← HLB.out,← HCB.out,Zcc]; rfl
    have w1:IntKind.i64.wrap ((N:Int) - 1)=(M:Int):=by rw [ZaK _ (by omega) (by omega)]; omega
    have w2:IntKind.i64.wrap ((q:Int)+1)=(Q1:Int):=by rw [ZaK _ (by omega) (by omega)]; omega
    have b0:(0:Int)<=(M:Int):=by omega
    have b1:(M:Int) < (N:Int):=by omega
    have b2:M < N:=by omega
    have b3:(q:Int)<=(Q1:Int):=by omega
    have b4:(Q1:Int)<=(S.size:Int):=by omega
    have b5:q<=Q1:=by omega
    have b6:Q1<=S.size:=by omega
    have b7:¬ 9223372036854775807 < LB.size+CB.size:=by omega
    have b8:¬ 9223372036854775807 < LB.size+1:=by omega
    rw [sv,HLB.out] at cM
    rw [HNN.out]
    have hQle:Q1<=S.size:=b6
    clear hb hc OS hsetw hlast hcells hwl hwp hM OR hml hNM hq1 hLs
    go_wp2
    go_region
    all_goals
     rw [HRes.out]
     go_wp2
     go_roundw
     case rel=>exact ⟨Q1,hQle,by rw [← HQ1.out],by rw [← HQ1.out]; exact HOS.out,Below.drew TS⟩
     case measure=>simp [intOf]; have:=HQ1.out; omega
  ·obtain rfl:q=S.size:=by omega
   have hwp:=HWp.out S.size
   rw [List.take_of_length_le (by omega)] at OR hwp
   obtain ⟨g,cp,rfl,hg,LS⟩:=OR.strs hwp
   go_wp2
   go_ret
   exact ⟨g,_,cp,rfl,LS,TR⟩
def valN (l:List UInt8):Nat:=l.foldl (fun a c=>a * 10+(c.toNat - 48)) 0
theorem valN_snoc (l:List UInt8) (c:UInt8):valN (l ++ [c])=valN l * 10+(c.toNat - 48):=by simp [valN]
def WholeR (l:List UInt8) (e:Ending):Prop :=
 (∃ u:Nat,u < 10000000000000000000/\l=Lib.decDigits u/\e=.returned (.tuple #[.int .u64 u,.bool true]))\/((∀ u:Nat,u < 10000000000000000000->l ≠ Lib.decDigits u)/\∃ z,e=.returned (.tuple #[.int .u64 z,.bool false]))
theorem dec_val (u:Nat):valN (Lib.decDigits u)=u:=by
 induction u using Nat.strongRecOn with
 | _ u ih =>
   rw [Lib.decDigits]
   split
   ·rename_i h
    show 0 * 10+((UInt8.ofNat (48+u)).toNat - 48)=u
    rw [Zbj h]
    omega
   ·rw [valN_snoc,ih (u / 10) (by omega),Zbj (by omega)]
    omega
theorem rwhole_calls (S:ByteArray) (s:List UInt8) (w:World) (hS:Hid (S.data.toList=s)) (hs:S.size<=9223372036854775807) (hL:LD w) :
  Calls Tryz.prog 99 #[.string S] w fun e w'=>WholeR s e/\Below w.heap.size w w':=by
 have hsl:s.length=S.size:=by rw [← hS.out]; rfl
 go_enter Tryz.func99,Tryz.ntmps99
 go_wp2
 go_loopw [4,5] (fun v i wr=>∃ (q:Nat) (z:Int),q<=S.size/\q<=20/\v=.int .u64 z/\i=.int .i64 q/\Hid ((q<=19->z=(valN (s.take q):Int)/\valN (s.take q) < 10 ^ q)/\(0<=z/\z < 18446744073709551616)/\∀ j (hj:j < s.length),j < q->48<=s[j].toNat/\s[j].toNat<=57)/\wr=w) (fun _ i _=>20 - (intOf i).toNat)
 case atStart=>exact ⟨0,0,Nat.zero_le _,by omega,rfl,rfl,⟨fun _=>⟨rfl,by simp [valN]⟩,by omega,fun j _ hj=>by omega⟩,rfl⟩
 case round =>
  obtain ⟨q,z,hq,hq20,rfl,rfl,HR,hw⟩:=hrel
  replace hw:=hw.symm
  subst hw
  by_cases hlt:q < S.size/\q < 20
  ·obtain ⟨h1,h2⟩:=hlt
   have q0:(0:Int)<=(q:Int):=by omega
   have q1:(q:Int) < (S.size:Int):=by omega
   have q2:(q:Int) < 20:=by omega
   obtain ⟨hqs,hb⟩:=Zcd hS.out h1
   have HTk:Hid (s.take (q+1)=s.take q ++ [s[q]]):=by show _=_; rw [List.take_add_one,List.getElem?_eq_getElem hqs,Option.toList_some]
   by_cases hd:48<=s[q].toNat/\s[q].toNat<=57
   ·have d0:(48:Int)<=(S[q].toNat:Int):=by rw [hb]; omega
    have d1:(S[q].toNat:Int)<=57:=by rw [hb]; omega
    have HN:Hid ((q+1<=19->IntKind.u64.wrap (IntKind.u64.wrap (IntKind.u64.wrap (z * 10)+(S[q].toNat:Int)) - 48)=(valN (s.take (q+1)):Int)/\valN (s.take (q+1)) < 10 ^ (q+1))/\(0<=IntKind.u64.wrap (IntKind.u64.wrap (IntKind.u64.wrap (z * 10)+(S[q].toNat:Int)) - 48)/\IntKind.u64.wrap (IntKind.u64.wrap (IntKind.u64.wrap (z * 10)+(S[q].toNat:Int)) - 48) < 18446744073709551616)/\∀ j (hj:j < s.length),j < q+1->48<=s[j].toNat/\s[j].toNat<=57):=by
     refine ⟨fun h=>?_,?_,fun j hj hjq=>?_⟩
     ·obtain ⟨e1,e2⟩:=HR.out.1 (by omega)
      have hp:10 ^ q<=1000000000000000000:=Nat.le_trans (Nat.pow_le_pow_right (by decide) (show q<=18 by omega)) (by decide)
      rw [HTk.out,valN_snoc,Nat.pow_succ,IntKind.wrap_u64,IntKind.wrap_u64,IntKind.wrap_u64,hb]
      constructor <;> omega
     ·rw [IntKind.wrap_u64]; omega
     ·by_cases e:j=q
      ·subst e; exact hd
      ·exact HR.out.2.2 j hj (by omega)
    clear hb hd
    go_wp2
    go_roundw
    case rel=>exact ⟨q+1,_,by omega,by omega,by trivial,by go_num,HN,by trivial⟩
    case measure=>simp [intOf]; omega
   ·have HE:Hid (∀ u:Nat,u < 10000000000000000000->s ≠ Lib.decDigits u):=fun u _ e=>by
     have hm:s[q] ∈ Lib.decDigits u:=by rw [← e]; exact List.getElem_mem hqs
     exact hd (Zcu u _ hm)
    by_cases hd0:(S[q].toNat:Int) < 48
    ·clear hb hd
     go_wp2
     go_ret2
     exact ⟨.inr ⟨HE.out,_,rfl⟩,br⟩
    ·have hd1:57 < (S[q].toNat:Int):=by rw [hb] at hd0 ⊢; omega
     clear hb hd
     go_wp2
     go_ret2
     exact ⟨.inr ⟨HE.out,_,rfl⟩,br⟩
  ·by_cases h19:S.size<=19
   ·obtain rfl:q=S.size:=by omega
    obtain ⟨h1,h2,h3⟩:=HR.out
    obtain ⟨e1,e2⟩:=h1 h19
    have hsv:s.take S.size=s:=List.take_of_length_le (by omega)
    rw [hsv] at e1 e2
    have hp:10 ^ S.size<=10000000000000000000:=Nat.le_trans (Nat.pow_le_pow_right (by decide) h19) (by decide)
    have FM:=ZbS z h2.1 h2.2 w hL
    have hdg:dg z=Lib.decDigits (valN s):=by unfold dg; rw [e1]; rfl
    rw [hdg] at FM
    obtain ⟨F,HF⟩:=nm ((⟨(Lib.decDigits (valN s)).toArray⟩:ByteArray))
    rw [HF.out] at FM
    have HFM:=Lib.hid FM
    have l1:¬ (S.size:Int) < (S.size:Int):=by omega
    have l2:(S.size:Int)<=19:=by omega
    have HZ:Hid (z=(valN s:Int)/\valN s < 10000000000000000000):=⟨e1,by omega⟩
    by_cases heq:F=S
    ·have hq:=str_eq heq
     have HG:Hid (s=Lib.decDigits (valN s)):=by
      show _=_
      have:(⟨(Lib.decDigits (valN s)).toArray⟩:ByteArray).data.toList=s:=by rw [HF.out,heq]; exact hS.out
      exact this.symm
     clear FM heq h1 h2 h3 e1 e2 hsv hp hdg hlt hL
     go_wp2_with (go_at_call 102; refine HFM.out.mono ?_; rintro e w1 ⟨rfl,hw1⟩)
     go_ret2
     refine ⟨.inl ⟨valN s,HZ.out.2,HG.out,?_⟩,hw1⟩
     rw [HZ.out.1]
     rfl
    ·have hq:=str_ne heq
     have HE:Hid (∀ u:Nat,u < 10000000000000000000->s ≠ Lib.decDigits u):=fun u _ e=>heq (by
      rw [← HF.out]
      apply Go.WideShapes.bytes_inj
      show Lib.decDigits (valN s)=S.data.toList
      rw [hS.out,e,dec_val])
     clear FM heq h1 h2 h3 e1 e2 hsv hp hdg hlt hL
     go_wp2_with (go_at_call 102; refine HFM.out.mono ?_; rintro e w1 ⟨rfl,hw1⟩)
     go_ret2
     exact ⟨.inr ⟨HE.out,_,rfl⟩,hw1⟩
   ·have HE:Hid (∀ u:Nat,u < 10000000000000000000->s ≠ Lib.decDigits u):=fun u hu e=>by
     have h:=dec_short (u:=u) (k:=19) (by omega) (by omega)
     rw [← e] at h
     omega
    obtain rfl:q=20:=by omega
    have l2:¬ (S.size:Int)<=19:=by omega
    clear hlt
    go_wp2
    all_goals
     go_ret2
     exact ⟨.inr ⟨HE.out,_,rfl⟩,br⟩
def nv (ws:List (List UInt8)) (i:Nat):Int:=(valN (ws.getD i []):Int)
def WhOk (ws:List (List UInt8)) (i:Nat):Prop:=∃ u:Nat,u < 10000000000000000000/\ws.getD i []=Lib.decDigits u
theorem nv_of {ws:List (List UInt8)} {i u:Nat} (h:ws.getD i []=Lib.decDigits u):nv ws i=(u:Int):=by unfold nv; rw [h,dec_val]
def rdLn (ws:List (List UInt8)):Ln:=⟨nv ws 0,nv ws 1,nv ws 2,nv ws 3,(List.range (ws.length - 4)).map fun i=>nv ws (4+i)⟩
theorem whok_line {l:Ln} (h:l.ok) {i:Nat} (hi:i < l.nums.length):WhOk l.words i:=by
 have:=h.at hi
 exact ⟨(l.nums.getD i 0).toNat,by omega,ZcM hi⟩
theorem nv_line {l:Ln} (h:l.ok) {i:Nat} (hi:i < l.nums.length):nv l.words i=l.nums.getD i 0:=by
 have:=h.at hi
 rw [nv_of (ZcM hi)]
 omega
theorem rd_line {l:Ln} (h:l.ok):rdLn l.words=l:=by
 have hn:l.nums.length=l.b.length+4:=by simp [Ln.nums]
 have a0:=nv_line h (i:=0) (by omega)
 have a1:=nv_line h (i:=1) (by omega)
 have a2:=nv_line h (i:=2) (by omega)
 have a3:=nv_line h (i:=3) (by omega)
 obtain ⟨s,r,root,chain,b⟩:=l
 simp only [rdLn,a0,a1,a2,a3]
 simp only [Ln.mk.injEq]
 refine ⟨rfl,rfl,rfl,rfl,?_⟩
 apply List.ext_getElem
 ·simp [Ln.words_len]
 ·intro i h1 h2
  simp only [List.getElem_map,List.getElem_range]
  rw [nv_line h (by rw [hn]; dsimp only; omega)]
  rw [List.getD_eq_getElem?_getD,Nat.add_comm]
  simp [Ln.nums,h2]
theorem rd_words {ws:List (List UInt8)} (h:∀ i,i < ws.length->WhOk ws i) (h4:4<=ws.length):(rdLn ws).words=ws:=by
 have key:∀ i,i < ws.length->dg (nv ws i)=ws.getD i []:=fun i hi=>by
  obtain ⟨u,_,e⟩:=h i hi
  rw [nv_of e,e]; rfl
 have kd:∀ i (hi:i < ws.length),ws.getD i []=ws[i]:=fun i hi=>by rw [List.getD_eq_getElem?_getD,List.getElem?_eq_getElem hi,Option.getD_some]
 apply List.ext_getElem
 ·rw [Ln.words_len]; simp [rdLn]; omega
 ·intro i h1 h2
  have e:(rdLn ws).words[i]=dg ((rdLn ws).nums.getD i 0):=by
   have hi:i < (rdLn ws).nums.length:=by simpa [Ln.words] using h1
   have:=ZcM hi
   rw [List.getD_eq_getElem?_getD,List.getElem?_eq_getElem h1,Option.getD_some] at this
   exact this
  rw [e,← kd i h2,← key i h2]
  congr 1
  rcases (show i=0\/i=1\/i=2\/i=3\/4<=i by omega) with rfl | rfl | rfl | rfl | h5
  ·rfl
  ·rfl
  ·rfl
  ·rfl
  ·obtain ⟨j,rfl⟩:∃ j,i=4+j:=⟨i - 4,by omega⟩
   rw [List.getD_eq_getElem?_getD,Nat.add_comm 4 j]
   simp [Ln.nums,rdLn,show j < ws.length - 4 by omega,Nat.add_comm]
def EndR (s:List UInt8) (q:Nat) (e:Int):Prop :=
 (e=-1/\∀ j (hj:j < s.length),q<=j->s[j] ≠ 10)\/(∃ j0,∃ hj0:j0 < s.length,e=(j0:Int)/\q<=j0/\s[j0]=10/\∀ j (hj:j < s.length),q<=j->j < j0->s[j] ≠ 10)
theorem EndR.start (s:List UInt8):EndR s s.length (-1):=.inl ⟨rfl,fun j hj h=>by omega⟩
theorem EndR.hit {s:List UInt8} {q:Nat} (hq:q < s.length) (h:s[q]=10):EndR s q (q:Int):=.inr ⟨q,hq,rfl,nr,h,fun j _ h1 h2=>by omega⟩
theorem EndR.miss {s:List UInt8} {q:Nat} {e:Int} (hq:q < s.length) (h:¬ s[q]=10) (hr:EndR s (q+1) e):EndR s q e:=by
 rcases hr with ⟨h1,h2⟩ | ⟨j0,hj0,h1,h2,h3,h4⟩
 ·refine .inl ⟨h1,fun j hj hqj=>?_⟩
  by_cases e:j=q
  ·subst e; exact h
  ·exact h2 j hj (by omega)
 ·refine .inr ⟨j0,hj0,h1,by omega,h3,fun j hj h5 h6=>?_⟩
  by_cases e:j=q
  ·subst e; exact h
  ·exact h4 j hj (by omega) h6
theorem EndR.none {s:List UInt8} (h:EndR s 0 (-1)):(10:UInt8) ∉ s:=by
 intro hm
 obtain ⟨j,hj,e⟩:=List.getElem_of_mem hm
 rcases h with ⟨_,h2⟩ | ⟨j0,_,h1,_⟩
 ·exact h2 j hj (by omega) e
 ·omega
theorem EndR.some {s:List UInt8} {e:Int} (h:EndR s 0 e) (he:0<=e):∃ k:Nat,e=(k:Int)/\k < s.length/\(10:UInt8) ∉ s.take k/\s.take k ++ [10] <+: s:=by
 rcases h with ⟨h1,_⟩ | ⟨j0,hj0,h1,_,h3,h4⟩
 ·omega
 ·refine ⟨j0,h1,hj0,fun hm=>?_,?_⟩
  ·obtain ⟨j,hj,e⟩:=List.getElem_of_mem hm
   rw [List.length_take] at hj
   rw [List.getElem_take] at e
   exact h4 j (by omega) (by omega) (by omega) e
  ·refine ⟨s.drop (j0+1),?_⟩
   rw [List.append_assoc,← h3]
   have:[s[j0]] ++ s.drop (j0+1)=s.drop j0:=by rw [List.singleton_append]; exact (List.drop_eq_getElem_cons hj0).symm
   rw [this,List.take_append_drop]
structure RlBt (w1:World) (ws:List (List UInt8)) (gN n g:Nat) (s r root chain:Int) (v:Value) (q:Nat) (wr:World):Prop where
 box:wr.rowIs g 111 5 (fn5 (.int .i64 s) v (.int .i64 r) (.int .u64 root) (.int .u64 chain))
 own:OwnX 3 (g+1) wr v (((List.range q).map fun i=>nv ws (4+i)).map (Value.int .i64))
 nums:∀ i,i < n->wr.cell? ⟨gN,i,none⟩=some (.int .u64 (nv ws i))
 gt:gN < g/\w1.heap.size<=gN
 old:Below w1.heap.size w1 wr
theorem readLine_calls (S:ByteArray) (s:List UInt8) (w:World) (hS:Hid (S.data.toList=s)) (hs:S.size<=1048576) (hL:LD w) :
  Calls Tryz.prog 63 #[.string S] w fun e w'=>ParseR s w e w'/\Below w.heap.size w w':=by
 have hsl:s.length=S.size:=by rw [← hS.out]; rfl
 have hal:=(Below.refl w.heap.size w).alloc nr (.cells #[.int .i64 0,.slice none 0 0,.int .i64 0,.int .u64 0,.int .u64 0] 111)
 have R0:=Zao w (.int .i64 0) (.slice none 0 0) (.int .i64 0) (.int .u64 0) (.int .u64 0) 111
 obtain ⟨W,HW⟩:=nm (w.alloc (.cells #[.int .i64 0,.slice none 0 0,.int .i64 0,.int .u64 0,.int .u64 0] 111))
 rw [HW.out] at hal R0
 have KL:Hid (∀ q,Below W.heap.size W q->LD q):=fun q hq=>hL.below (hal.trans (hq.mono hal.size)) nr
 clear hL
 go_enter Tryz.func63,Tryz.ntmps63
 go_wp2
 rw [HW.out]
 go_loopw [5,6] (fun e i wr=>∃ (q:Nat) (z:Int),q<=S.size/\e=.int .i64 z/\i=.int .i64 ((q:Int) - 1)/\Hid (EndR s q z/\-1<=z)/\wr=W) (fun _ i _=>(intOf i+1).toNat)
 case atStart=>exact ⟨S.size,-1,nr,rfl,rfl,⟨by rw [← hsl]; exact EndR.start s,by omega⟩,rfl⟩
 case round =>
  obtain ⟨q,z,hq,rfl,rfl,HE,hw⟩:=hrel
  replace hw:=hw.symm
  subst hw
  by_cases hlt:0 < q
  ·obtain ⟨p,hp⟩:∃ p,q=p+1:=⟨q - 1,by omega⟩
   subst hp
   have hps:p < S.size:=by omega
   obtain ⟨hpl,hb⟩:=Zcd hS.out hps
   have e1:((p+1:Nat):Int) - 1=(p:Int):=by omega
   rw [e1]
   have p0:(0:Int)<=(p:Int):=by omega
   have p1:(p:Int) < (S.size:Int):=by omega
   by_cases hc:s[p]=10
   ·have hcb:((S[p].toNat:Int) == 10)=true:=by rw [hb,hc]; rfl
    have HN:Hid (EndR s p (p:Int)/\-1<=(p:Int)):=⟨EndR.hit hpl hc,by omega⟩
    clear hb hc
    go_wp2
    go_roundw
    case rel=>exact ⟨p,p,by omega,by trivial,by trivial,HN,by trivial⟩
    case measure=>simp [intOf]
   ·have hcb:((S[p].toNat:Int) == 10)=false:=by
     rw [hb,beq_eq_false_iff_ne]
     intro e
     apply hc
     apply UInt8.toNat_inj.1
     have:((10:UInt8).toNat:Int)=10:=rfl
     omega
    have HN:Hid (EndR s p z/\-1<=z):=⟨EndR.miss hpl hc HE.out.1,HE.out.2⟩
    clear hb hc
    go_wp2
    go_roundw
    case rel=>exact ⟨p,z,by omega,by trivial,by trivial,HN,by trivial⟩
    case measure=>simp [intOf]
  ·obtain rfl:q=0:=by omega
   by_cases hz:z < 0
   ·have hz1:z=-1:=by have:=HE.out.2; omega
    have HX:Hid (∀ l,¬ IsLine s l):=fun l=>by
     have h:=HE.out.1
     rw [hz1] at h
     exact no_line (k:=s.length) (.inr nr) (by rw [List.take_length]; exact h.none) l
    obtain ⟨d0,d1,d2,d3,d4⟩:=Zah R0
    have f0:=R0.frozen 0
    have f1:=R0.frozen 1
    have f2:=R0.frozen 2
    have f3:=R0.frozen 3
    have f4:=R0.frozen 4
    go_wp2
    have R2:=ZaN R0 (.int .i64 0) (.slice none 0 0) (.int .i64 0) (.int .u64 0) (.int .u64 0)
    obtain ⟨e0,e1,e2,e3,e4⟩:=Zah R2
    exact bodyPost_ret (v:=.tuple #[.agg #[.int .i64 0,.slice none 0 0,.int .i64 0,.int .u64 0,.int .u64 0],.int .i64 0,.int .i64 5]) (by simp [results,Tryz.results63,go_sem,e0,e1,e2,e3,e4]) rfl ⟨.inr ⟨HX.out,rfl⟩,Zan hal nr _ _ _ _ _⟩
   ·obtain ⟨K,hzK,hKl,hKn,hKp⟩:=HE.out.1.some (by omega)
    subst hzK
    have k1:(K:Int)<=(S.size:Int):=by omega
    have k0:(0:Int)<=(K:Int):=by omega
    obtain ⟨LB,HLB⟩:=nm (S.extract 0 K)
    obtain ⟨l,HLl⟩:=nm (s.take K)
    have HLd:Hid (LB.data.toList=l):=by show _=_; rw [← HLB.out,Lib.extract_from_zero,hS.out,HLl.out]
    rw [HLl.out] at hKn hKp
    have hLBs:LB.size<=1048576:=by
     have:LB.size=l.length:=by rw [← HLd.out]; rfl
     rw [this,← HLl.out,List.length_take]
     omega
    have HU:Hid (∀ m,IsLine s m->m.words=wordsOf 32 l):=fun m hm=>by rw [← m.wordsOf,line_unique hm hKn hKp]
    have HPf:Hid (l ++ [10] <+: s):=hKp
    have hll:l.length<=1048576:=by
     have:LB.size=l.length:=by rw [← HLd.out]; rfl
     omega
    have hll1:Hid (l.length=K):=by show _=_; rw [← HLl.out,List.length_take]; omega
    obtain ⟨ws,HWS⟩:=nm (wordsOf 32 l)
    have hwsl:ws.length<=1048577/\0 < ws.length:=by
     have h:=(ZaH 32 l).1
     have h2:0 < (wordsOf 32 l).length:=by simp [wordsOf]
     rw [HWS.out] at h h2
     omega
    have HWl:Hid (∀ i,(ws.getD i []).length<=1048576):=fun i=>by
     have h:=(ZaH 32 l).2 i
     rw [HWS.out] at h
     omega
    rw [HWS.out] at HU
    have HJ:Hid (Lib.join ws [32]=l):=by show _=_; rw [← HWS.out,join_wordsOf]
    have PC:=pieces_calls LB l W HLd hLBs
    rw [HWS.out] at PC
    have HPC:=Lib.hid PC
    clear PC hKn hKp HE
    go_wp2_with fail
    rw [HLB.out]
    refine HPC.out.mono ?_
    rintro e w1 ⟨gw,n,cw,rfl,LS,hw1⟩
    have HNn:Hid (ws.length=n):=LS.len
    have hn1:n<=1048577:=by have:=HNn.out; omega
    have hn0:0 < n:=by have:=HNn.out; omega
    have KR:Hid (∀ q,Below w1.heap.size w1 q->q.rowIs w.heap.size 111 5 (fn5 (.int .i64 0) (.slice none 0 0) (.int .i64 0) (.int .u64 0) (.int .u64 0))/\Below w.heap.size w q):=fun q hq=>by
     have h:=hw1.trans (hq.mono hw1.size)
     exact ⟨R0.of_block (h.block _ R0.lt),hal.trans (h.mono hal.size)⟩
    have KLS:Hid (∀ q k,Below w1.heap.size w1 q->k < n->q.cell? ⟨gw,k,none⟩=some (.string ⟨(ws.getD k []).toArray⟩)):=fun q k hq hk=>by
     obtain ⟨b,o,e,_,hc⟩:=LS.at1b hq nr hk
     simp only [Option.some.injEq,Addr.mk.injEq,and_true] at e
     obtain ⟨rfl,rfl⟩:=e
     rw [Nat.zero_add] at hc
     exact hc
    have KL1:Hid (∀ q,Below w1.heap.size w1 q->LD q):=fun q hq=>KL.out q (hw1.trans (hq.mono hw1.size))
    have HBad:Hid (∀ j,j < n->¬ WhOk ws j->∀ m,¬ IsLine s m):=fun j hj hno m hm=>by
     have hw:=HU.out m hm
     rw [← hw] at hno
     refine hno (whok_line hm.1 ?_)
     have h:=HNn.out
     rw [← hw,Ln.words,List.length_map] at h
     omega
    have HRd:Hid (∀ m,IsLine s m->rdLn ws=m):=fun m hm=>by rw [← HU.out m hm]; exact rd_line hm.1
    have H4:Hid (n < 4->∀ m,¬ IsLine s m):=fun h m hm=>by
     have h2:=HNn.out
     rw [← HU.out m hm,Ln.words_len] at h2
     omega
    have HGood:Hid ((∀ i,i < n->WhOk ws i)->4<=n->(rdLn ws).ok->IsLine s (rdLn ws)):=fun h1 h2 h3=>by
     refine ⟨h3,?_⟩
     have e:(rdLn ws).words=ws:=rd_words (by rw [HNn.out]; exact h1) (by rw [HNn.out]; exact h2)
     have e2:(rdLn ws).text=l ++ [10]:=by rw [Ln.text,Ln.line,e,HJ.out]
     rw [e2]
     exact HPf.out
    have HTl:Hid ((∀ i,i < n->WhOk ws i)->4<=n->(rdLn ws).text.length=K+1):=fun h1 h2=>by
     have e:(rdLn ws).words=ws:=rd_words (by rw [HNn.out]; exact h1) (by rw [HNn.out]; exact h2)
     rw [Ln.text,Ln.line,e,HJ.out,List.length_append,hll1.out]
     rfl
    have hWsz:=hw1.size
    have hRlt:=R0.lt
    clear LS hwsl
    go_wp2
    go_loopw [8,9] (fun v i wr=>∃ q:Nat,q<=n/\i=.int .i64 q/\Hid (∀ j,j < q->WhOk ws j)/\OwnX 48 w1.heap.size wr v (((List.range q).map (nv ws)).map (Value.int .u64))/\Below w1.heap.size w1 wr) (fun _ i _=>n - (intOf i).toNat)
    case atStart=>exact ⟨0,Nat.zero_le _,rfl,fun j hj=>by omega,OwnX.nil _ _ _,br⟩
    case round =>
     obtain ⟨q,hq,rfl,HG,OR,TR⟩:=hrel
     by_cases hlt:q < n
     ·have c1:=KLS.out _ q TR hlt
      obtain ⟨X,HX⟩:=nm ((⟨(ws.getD q []).toArray⟩:ByteArray))
      rw [HX.out] at c1
      have HXd:Hid (X.data.toList=ws.getD q []):=by show _=_; rw [← HX.out]
      have hXs:X.size<=1048576:=by
       have h:X.size=(ws.getD q []).length:=by rw [← HX.out]; rfl
       rw [h]
       exact HWl.out q
      have HWh:=Lib.hid (rwhole_calls X (ws.getD q []) wr HXd (by omega) (KL1.out _ TR))
      have qn:(q:Int) < (n:Int):=by omega
      go_wp2_with fail
      refine HWh.out.mono ?_
      rintro e w2 ⟨hu,hw2⟩
      rcases hu with ⟨u,hu1,hu2,rfl⟩ | ⟨hu1,z,rfl⟩
      ·have HN:Hid (((List.range q).map (nv ws)).map (Value.int .u64) ++ [.int .u64 (u:Int)]=((List.range (q+1)).map (nv ws)).map (Value.int .u64)):=by
        show _=_
        rw [List.range_succ,List.map_append,List.map_append,List.map_singleton,List.map_singleton,nv_of hu2]
       have HG2:Hid (∀ j,j < q+1->WhOk ws j):=fun j hj=>by
        by_cases e:j=q
        ·subst e; exact ⟨u,hu1,hu2⟩
        ·exact HG.out j (by omega)
       have T3:Below wr.heap.size wr (w2.alloc (.cells #[.int .u64 (u:Int)] 48)):=hw2.alloc hw2.size _
       have O3:=OR.below T3
       have T4:=TR.trans (T3.mono TR.size)
       have hvl:(((List.range q).map (nv ws)).map (Value.int .u64)).length=q:=by simp
       clear hu1 hu2
       go_wp2_with (at_builtin; refine ZaJ Tryz.underlying144 infoWordX rfl (by decide) (by rfl) _ _ (by rfl) w1.heap.size _ (((List.range q).map (nv ws)).map (Value.int .u64)) (.int .u64 (u:Int)) w2.heap.size w1 (by rfl) (by rfl) (by exact O3) (by exact Zaf _ _ _) (by rfl) (by rw [hvl]; omega) (by exact T4.size) (by exact T4) ?_; intro v9 w9 O9 T9 _ _)
       go_roundw
       case rel=>exact ⟨q+1,by omega,by go_num,HG2,O9.congr HN.out,T9⟩
       case measure=>simp [intOf]; omega
      ·have HE:Hid (∀ m,¬ IsLine s m):=HBad.out q hlt (fun ⟨u,h1,h2⟩=>hu1 u h1 h2)
       have T2:=TR.trans (hw2.mono TR.size)
       obtain ⟨RX,TX⟩:=KR.out _ T2
       clear hu1
       obtain ⟨d0,d1,d2,d3,d4⟩:=Zah RX
       have f0:=RX.frozen 0
       have f1:=RX.frozen 1
       have f2:=RX.frozen 2
       have f3:=RX.frozen 3
       have f4:=RX.frozen 4
       go_wp2
       have R2:=ZaN RX (.int .i64 0) (.slice none 0 0) (.int .i64 0) (.int .u64 0) (.int .u64 0)
       obtain ⟨e0,e1,e2,e3,e4⟩:=Zah R2
       exact bodyPost_ret (v:=.tuple #[.agg #[.int .i64 0,.slice none 0 0,.int .i64 0,.int .u64 0,.int .u64 0],.int .i64 0,.int .i64 5]) (by simp [results,Tryz.results63,go_sem,e0,e1,e2,e3,e4]) rfl ⟨.inr ⟨HE.out,rfl⟩,Zan TX nr _ _ _ _ _⟩
     ·obtain rfl:q=n:=by omega
      by_cases h4:q < 4
      ·have HE:Hid (∀ m,¬ IsLine s m):=H4.out h4
       have hvl:(((List.range q).map (nv ws)).map (Value.int .u64)).length=q:=by simp
       obtain ⟨gN,cN,rfl,hgN,hgNl,hcN,hcell⟩:=OR.row (by rw [hvl]; exact hn0)
       rw [hvl]
       obtain ⟨RX,TX⟩:=KR.out _ TR
       have n4:(q:Int) < 4:=by omega
       obtain ⟨d0,d1,d2,d3,d4⟩:=Zah RX
       have f0:=RX.frozen 0
       have f1:=RX.frozen 1
       have f2:=RX.frozen 2
       have f3:=RX.frozen 3
       have f4:=RX.frozen 4
       go_wp2
       have R2:=ZaN RX (.int .i64 0) (.slice none 0 0) (.int .i64 0) (.int .u64 0) (.int .u64 0)
       obtain ⟨e0,e1,e2,e3,e4⟩:=Zah R2
       exact bodyPost_ret (v:=.tuple #[.agg #[.int .i64 0,.slice none 0 0,.int .i64 0,.int .u64 0,.int .u64 0],.int .i64 0,.int .i64 5]) (by simp [results,Tryz.results63,go_sem,e0,e1,e2,e3,e4]) rfl ⟨.inr ⟨HE.out,rfl⟩,Zan TX nr _ _ _ _ _⟩
      ·have hvl:(((List.range q).map (nv ws)).map (Value.int .u64)).length=q:=by simp
       obtain ⟨gN,cN,rfl,hgN,hgNl,hcN,hcell⟩:=OR.row (by rw [hvl]; exact hn0)
       have HNum:Hid (∀ i,i < q->wr.cell? ⟨gN,i,none⟩=some (.int .u64 (nv ws i))):=fun i hi=>hcell i _ (by simp [hi])
       rw [hvl] at hcN ⊢
       clear hcell
       obtain ⟨p0,HP0⟩:=nm (nv ws 0)
       obtain ⟨p1,HP1⟩:=nm (nv ws 1)
       obtain ⟨p2,HP2⟩:=nm (nv ws 2)
       obtain ⟨p3,HP3⟩:=nm (nv ws 3)
       have c0:wr.cell? ⟨gN,0,none⟩=some (.int .u64 p0):=by rw [HNum.out 0 (by omega),HP0.out]
       have c1:wr.cell? ⟨gN,1,none⟩=some (.int .u64 p1):=by rw [HNum.out 1 (by omega),HP1.out]
       have c2:wr.cell? ⟨gN,2,none⟩=some (.int .u64 p2):=by rw [HNum.out 2 (by omega),HP2.out]
       have c3:wr.cell? ⟨gN,3,none⟩=some (.int .u64 p3):=by rw [HNum.out 3 (by omega),HP3.out]
       have m0:0 < q:=by omega
       have m1:1 < q:=by omega
       have m2:2 < q:=by omega
       have m3:3 < q:=by omega
       have n0:(0:Int) < (q:Int):=by omega
       have n1:(1:Int) < (q:Int):=by omega
       have n2:(2:Int) < (q:Int):=by omega
       have n3:(3:Int) < (q:Int):=by omega
       have n4:¬ (q:Int) < 4:=by omega
       have p00:0<=p0:=by rw [← HP0.out]; unfold nv; omega
       have p10:0<=p1:=by rw [← HP1.out]; unfold nv; omega
       obtain ⟨RX,TX⟩:=KR.out _ TR
       by_cases h99:99 < p0
       ·have HE:Hid (∀ m,¬ IsLine s m):=fun m hm=>by
         have e:=HRd.out m hm
         have h:=hm.1.s.2
         rw [← e] at h
         have h2:(rdLn ws).s=p0:=HP0.out
         omega
        obtain ⟨d0,d1,d2,d3,d4⟩:=Zah RX
        have f0:=RX.frozen 0
        have f1:=RX.frozen 1
        have f2:=RX.frozen 2
        have f3:=RX.frozen 3
        have f4:=RX.frozen 4
        go_wp2
        have R2:=ZaN RX (.int .i64 0) (.slice none 0 0) (.int .i64 0) (.int .u64 0) (.int .u64 0)
        obtain ⟨e0,e1,e2,e3,e4⟩:=Zah R2
        exact bodyPost_ret (v:=.tuple #[.agg #[.int .i64 0,.slice none 0 0,.int .i64 0,.int .u64 0,.int .u64 0],.int .i64 0,.int .i64 5]) (by simp [results,Tryz.results63,go_sem,e0,e1,e2,e3,e4]) rfl ⟨.inr ⟨HE.out,rfl⟩,Zan TX nr _ _ _ _ _⟩
       ·by_cases hto:2147483647 < p1
        ·have HE:Hid (∀ m,¬ IsLine s m):=fun m hm=>by
          have e:=HRd.out m hm
          have h:=hm.1.r.2
          rw [← e] at h
          have h2:(rdLn ws).r=p1:=HP1.out
          omega
         obtain ⟨d0,d1,d2,d3,d4⟩:=Zah RX
         have f0:=RX.frozen 0
         have f1:=RX.frozen 1
         have f2:=RX.frozen 2
         have f3:=RX.frozen 3
         have f4:=RX.frozen 4
         go_wp2
         have R2:=ZaN RX (.int .i64 0) (.slice none 0 0) (.int .i64 0) (.int .u64 0) (.int .u64 0)
         obtain ⟨e0,e1,e2,e3,e4⟩:=Zah R2
         exact bodyPost_ret (v:=.tuple #[.agg #[.int .i64 0,.slice none 0 0,.int .i64 0,.int .u64 0,.int .u64 0],.int .i64 0,.int .i64 5]) (by simp [results,Tryz.results63,go_sem,e0,e1,e2,e3,e4]) rfl ⟨.inr ⟨HE.out,rfl⟩,Zan TX nr _ _ _ _ _⟩
        ·have y0:IntKind.i64.wrap p0=p0:=ZaK _ (by omega) (by omega)
         have y1:IntKind.i64.wrap p1=p1:=ZaK _ (by omega) (by omega)
         have y2:wrap64 p0=p0:=by rw [wrap64]; omega
         have y3:wrap64 p1=p1:=by rw [wrap64]; omega
         have T0:Below wr.heap.size wr wr:=br
         have hle:wr.heap.size<=wr.heap.size:=nr
         have KS:Hid (∀ q,Below wr.heap.size wr q->q.cell? ⟨gN,0,none⟩=some (.int .u64 p0)/\q.cell? ⟨gN,1,none⟩=some (.int .u64 p1)/\q.cell? ⟨gN,2,none⟩=some (.int .u64 p2)/\q.cell? ⟨gN,3,none⟩=some (.int .u64 p3)):=fun q hq=>⟨(hq.cell (p:=⟨gN,0,none⟩) hgNl).trans c0,(hq.cell (p:=⟨gN,1,none⟩) hgNl).trans c1,(hq.cell (p:=⟨gN,2,none⟩) hgNl).trans c2,(hq.cell (p:=⟨gN,3,none⟩) hgNl).trans c3⟩
         clear OR
         go_wp2
         clear c0 c1 c2 c3
         go_region_held3 (fun q=>q.cell? ⟨gN,0,none⟩=some (.int .u64 p0)/\q.cell? ⟨gN,1,none⟩=some (.int .u64 p1)/\q.cell? ⟨gN,2,none⟩=some (.int .u64 p2)/\q.cell? ⟨gN,3,none⟩=some (.int .u64 p3)) ((with_reducible refine KS.out _ ?_; iterate 12 (first | done | with_reducible exact T0 | with_reducible refine Below.drew ?_ | with_reducible refine alS ?_ hle | (with_reducible refine setS ?_ ?_; rotate_left; omega)))) (fail)
         have TW:Below wr.heap.size wr (wr.alloc (.cells #[.int .i64 p0,.slice none 0 0,.int .i64 p1,.int .u64 p2,.int .u64 p3] 111)).drew:=Below.drew (T0.alloc hle _)
         have RB:RlBt w1 ws gN q wr.heap.size p0 p1 p2 p3 (.slice none 0 0) 0 (wr.alloc (.cells #[.int .i64 p0,.slice none 0 0,.int .i64 p1,.int .u64 p2,.int .u64 p3] 111)).drew :=
          ⟨Zao wr (.int .i64 p0) (.slice none 0 0) (.int .i64 p1) (.int .u64 p2) (.int .u64 p3) 111,OwnX.nil _ _ _,fun i hi=>(TW.cell (p:=⟨gN,i,none⟩) hgNl).trans (HNum.out i hi),⟨hgNl,hgN⟩,TR.trans (TW.mono TR.size)⟩
         generalize hWn:(wr.alloc (.cells #[.int .i64 p0,.slice none 0 0,.int .i64 p1,.int .u64 p2,.int .u64 p3] 111)).drew=Wn at *
         clear hWn T0 hle KS y0 y1 y2 y3 TW HNum
         generalize hg9:wr.heap.size=g9 at *
         clear hg9
         have HF:Hid (∀ v q2,RlBt w1 ws gN q g9 p0 p1 p2 p3 v (q - 4) q2->∃ a c,v=.slice a (q - 4) c/\Lst q2 a (q - 4) c (rdLn ws).b/\∀ bb oo,a=some ⟨bb,oo,none⟩->g9 < bb):=fun v q2 h=>by
          obtain ⟨a,c,e,l,hb9⟩:=h.own.intsB
          have hb:(rdLn ws).b=(List.range (q - 4)).map fun i=>nv ws (4+i):=by
           show (List.range (ws.length - 4)).map _=_
           rw [HNn.out]
          rw [List.length_map,List.length_range] at e l
          exact ⟨a,c,e,by rw [hb]; exact l,hb9⟩
         go_wp2
         go_loopw [13] (fun i wr=>∃ (k:Nat) (v:Value),4<=k/\k<=q/\i=.int .i64 k/\RlBt w1 ws gN q g9 p0 p1 p2 p3 v (k - 4) wr) (fun i _=>q - (intOf i).toNat)
         case atStart=>exact ⟨4,_,nr,by omega,rfl,RB⟩
         case round =>
          generalize hwr:wr=wz at *
          clear hwr
          obtain ⟨k,v,hk4,hkq,rfl,R⟩:=hrel
          by_cases hlt:k < q
          ·obtain ⟨z,HZ⟩:=nm (nv ws k)
           have c1:=R.nums k hlt
           rw [HZ.out] at c1
           have z0:0<=z:=by rw [← HZ.out]; unfold nv; omega
           have kq:(k:Int) < (q:Int):=by omega
           have k00:(0:Int)<=(k:Int):=by omega
           by_cases h99b:99 < z
           ·have HE:Hid (∀ m,¬ IsLine s m):=fun m hm=>by
             have e:=HRd.out m hm
             have h:=hm.1.b z (by
              rw [← e]
              refine List.mem_map.2 ⟨k - 4,List.mem_range.2 (by rw [HNn.out]; omega),?_⟩
              rw [show 4+(k - 4)=k by omega,HZ.out])
             omega
            obtain ⟨RX,TX⟩:=KR.out _ R.old
            obtain ⟨d0,d1,d2,d3,d4⟩:=Zah RX
            have f0:=RX.frozen 0
            have f1:=RX.frozen 1
            have f2:=RX.frozen 2
            have f3:=RX.frozen 3
            have f4:=RX.frozen 4
            go_wp2
            have R2:=ZaN RX (.int .i64 0) (.slice none 0 0) (.int .i64 0) (.int .u64 0) (.int .u64 0)
            obtain ⟨e0,e1,e2,e3,e4⟩:=Zah R2
            exact bodyPost_ret (v:=.tuple #[.agg #[.int .i64 0,.slice none 0 0,.int .i64 0,.int .u64 0,.int .u64 0],.int .i64 0,.int .i64 5]) (by simp [results,Tryz.results63,go_sem,e0,e1,e2,e3,e4]) rfl ⟨.inr ⟨HE.out,rfl⟩,Zan TX nr _ _ _ _ _⟩
           ·have y0:IntKind.i64.wrap z=z:=ZaK _ (by omega) (by omega)
            have y1:wrap64 z=z:=by rw [wrap64]; omega
            obtain ⟨d0,d1,d2,d3,d4⟩:=Zah R.box
            have hal1:Below wz.heap.size wz (wz.drew.alloc (.cells #[.int .i64 z] 3)):=(Below.drew br).alloc nr _
            have hal2:Below wz.heap.size wz (wz.alloc (.cells #[.int .i64 z] 3)).drew:=Below.drew (br.alloc nr _)
            have d1a:=(hal1.cell (p:=⟨g9,1,none⟩) R.box.lt).trans d1
            have d1b:=(hal2.cell (p:=⟨g9,1,none⟩) R.box.lt).trans d1
            have O1:=R.own.below hal1
            have O2:=R.own.below hal2
            have hBs:g9+1<=(wz.drew.alloc (.cells #[.int .i64 z] 3)).heap.size:=Nat.le_trans R.box.lt hal1.size
            have hB1:Below (g9+1) wz (wz.drew.alloc (.cells #[.int .i64 z] 3)):=hal1.mono R.box.lt
            have HR:Hid (((List.range (k - 4)).map fun i=>nv ws (4+i)).map (Value.int .i64) ++ [.int .i64 z]=((List.range (k+1 - 4)).map fun i=>nv ws (4+i)).map (Value.int .i64)):=by
             show _=_
             rw [show k+1 - 4=(k - 4)+1 by omega,List.range_succ,List.map_append,List.map_append,List.map_singleton,List.map_singleton,show 4+(k - 4)=k by omega,HZ.out]
            generalize hVS:((List.range (k - 4)).map fun i=>nv ws (4+i)).map (Value.int .i64)=VS at *
            have hvl:VS.length=k - 4:=by rw [← hVS]; simp
            have HVS:=Lib.hid hVS
            clear hVS
            go_wp2
            go_region_law (first | (refine step_append_x Tryz.underlying66 infoIntX rfl (by decide) (by rfl) _ _ (by rfl) (g9+1) _ VS (.int .i64 z) wz.heap.size wz (by rfl) (by rfl) (by first | exact O1 | exact O2) (by exact Zaf _ _ _) (by rfl) (by rw [hvl]; omega) (by exact hBs) (by exact hB1) ?_; intro v9 w9 O9 T9 _ _; obtain ⟨a9,c9,hv9,_⟩:=(O9.congr HR.out).ints; rw [List.length_map,List.length_range] at hv9; subst hv9; have d9:=(Zah (R.box.of_block (T9.block _ (Nat.lt_succ_self _)))).2.1; have f9:=(R.box.of_block (T9.block _ (Nat.lt_succ_self _))).frozen 1))
            all_goals
             go_wp2
             go_roundw
             case rel =>
              have hgt:=R.gt
              refine ⟨k+1,.slice a9 (k+1 - 4) c9,by omega,by omega,by go_num,⟨?_,?_,?_,R.gt,?_⟩⟩
              ·exact fn5_set1 (R.box.of_block (T9.block _ (Nat.lt_succ_self _))) _
              ·exact ownsRow_setCell_below (O9.congr HR.out) (Nat.lt_succ_self _) _
              ·intro i hi
               rw [World.cell?_setCell_other _ _ _ _ (by intro e; injection e with e; omega)]
               exact (T9.cell (p:=⟨gN,i,none⟩) (show gN < g9+1 by omega)).trans (R.nums i hi)
              ·exact (R.old.trans (T9.mono (by omega))).setCell (show w1.heap.size<=g9 by omega) _
             case measure=>simp [intOf]; omega
          ·obtain rfl:k=q:=by omega
           obtain ⟨av,cv,rfl,LB2,LBb⟩:=HF.out _ _ R
           have HLB2:=Lib.hid LBb
           clear LBb
           have HLn:=Lib.hid (rline_calls ⟨p0,av,k - 4,cv,p1,p2,p3⟩ (rdLn ws).b wz LB2 (by show 0<=p2; rw [← HP2.out]; unfold nv; omega) (by show 0<=p3; rw [← HP3.out]; unfold nv; omega) (by show k - 4<=_; omega))
           have HEq:Hid ((Rcm.ln ⟨p0,av,k - 4,cv,p1,p2,p3⟩ (rdLn ws).b)=rdLn ws):=by
            show _=_
            simp only [Rcm.ln,rdLn,HP0.out,HP1.out,HP2.out,HP3.out]
           rw [HEq.out] at HLn
           simp only [Rcm.val,Rcm.cells] at HLn
           obtain ⟨b0,b1,b2,b3,b4⟩:=Zah R.box
           go_wp2_with fail
           refine HLn.out.mono ?_
           rintro e w5 ⟨⟨bb,rfl,HB⟩,hw5⟩
           have T5:=R.old.trans (hw5.mono R.old.size)
           obtain ⟨RX,TX⟩:=KR.out _ T5
           cases bb with
           | false =>
             have HE:Hid (∀ m,¬ IsLine s m):=fun m hm=>by
              have e:=HRd.out m hm
              exact HB.no (by rw [e]; exact hm.1)
             clear HB
             obtain ⟨d0,d1,d2,d3,d4⟩:=Zah RX
             have f0:=RX.frozen 0
             have f1:=RX.frozen 1
             have f2:=RX.frozen 2
             have f3:=RX.frozen 3
             have f4:=RX.frozen 4
             go_wp2
             have R2:=ZaN RX (.int .i64 0) (.slice none 0 0) (.int .i64 0) (.int .u64 0) (.int .u64 0)
             obtain ⟨e0,e1,e2,e3,e4⟩:=Zah R2
             exact bodyPost_ret (v:=.tuple #[.agg #[.int .i64 0,.slice none 0 0,.int .i64 0,.int .u64 0,.int .u64 0],.int .i64 0,.int .i64 5]) (by simp [results,Tryz.results63,go_sem,e0,e1,e2,e3,e4]) rfl ⟨.inr ⟨HE.out,rfl⟩,Zan TX nr _ _ _ _ _⟩
           | true =>
             have HI:Hid (IsLine s (rdLn ws)):=HGood.out HG.out (by omega) HB.yes
             have HT:Hid ((rdLn ws).text.length=K+1):=HTl.out HG.out (by omega)
             have BX:=R.box.of_block (hw5.block _ R.box.lt)
             have LB5:=LB2.below hw5 nr
             clear HB b0 b1 b2 b3 b4
             obtain ⟨b0,b1,b2,b3,b4⟩:=Zah BX
             obtain ⟨d0,d1,d2,d3,d4⟩:=Zah RX
             have f0:=RX.frozen 0
             have f1:=RX.frozen 1
             have f2:=RX.frozen 2
             have f3:=RX.frozen 3
             have f4:=RX.frozen 4
             go_wp2
             have R2:=ZaN RX (.int .i64 p0) (.slice av (k - 4) cv) (.int .i64 p1) (.int .u64 p2) (.int .u64 p3)
             obtain ⟨e0,e1,e2,e3,e4⟩:=Zah R2
             have hgt:=R.gt
             have HFr:Hid (∀ bb oo,av=some ⟨bb,oo,none⟩->w.heap.size < bb):=fun bb oo e=>by
              have:=HLB2.out bb oo e
              omega
             have LB6:Lst (((((w5.setCell ⟨w.heap.size,0,none⟩ (.int .i64 p0)).setCell ⟨w.heap.size,1,none⟩ (.slice av (k - 4) cv)).setCell ⟨w.heap.size,2,none⟩ (.int .i64 p1)).setCell ⟨w.heap.size,3,none⟩ (.int .u64 p2)).setCell ⟨w.heap.size,4,none⟩ (.int .u64 p3)) av (k - 4) cv (rdLn ws).b:=by
              obtain ⟨l1,l2,l3⟩:=LB5
              refine ⟨l1,l2,l3.imp id ?_⟩
              rintro ⟨bb,oo,rfl,hs,hc⟩
              refine ⟨bb,oo,rfl,by simpa only [World.size_setCell] using hs,fun i hi=>?_⟩
              have hne:bb ≠ w.heap.size:=by have:=HFr.out bb oo rfl; omega
              have hne2:∀ o,(⟨w.heap.size,o,none⟩:Addr) ≠ ⟨bb,oo+i,none⟩:=fun o e=>by injection e with e; exact hne e.symm
              rw [World.cell?_setCell_other _ _ _ _ (hne2 _),World.cell?_setCell_other _ _ _ _ (hne2 _),World.cell?_setCell_other _ _ _ _ (hne2 _),World.cell?_setCell_other _ _ _ _ (hne2 _),World.cell?_setCell_other _ _ _ _ (hne2 _)]
              exact hc i hi
             refine bodyPost_ret (v:=.tuple #[.agg #[.int .i64 p0,.slice av (k - 4) cv,.int .i64 p1,.int .u64 p2,.int .u64 p3],.int .i64 ((K:Int)+1),.int .i64 0]) (by simp [results,Tryz.results63,go_sem,e0,e1,e2,e3,e4]) rfl ⟨.inl ⟨rdLn ws,⟨p0,av,k - 4,cv,p1,p2,p3⟩,HI.out,HEq.out,LB6,fun bb oo e=>by have:=HFr.out bb oo e; omega,?_⟩,Zan TX nr _ _ _ _ _⟩
             rw [HT.out]
             rfl
theorem Zbt (S:ByteArray) (s:List UInt8) (w:World) (hS:Hid (S.data.toList=s)) (hs:S.size<=1048576) (hL:LD w) :
  Calls Tryz.prog 41 #[.string S] w fun e w'=>RightR s w e w'/\Below w.heap.size w w':=by
 have hsl:s.length=S.size:=by rw [← hS.out]; rfl
 have KP:Hid (∀ (n:Nat) q,n<=S.size->Below w.heap.size w q->Calls Tryz.prog 63 #[.string (S.extract n S.size)] q fun e w'=>ParseR (s.drop n) q e w'/\Below q.heap.size q w'):=fun n q hn hq=>by
  have e:(S.extract n S.size).data.toList=s.drop n:=by rw [Lib.extract_to_end,hS.out]
  have hz:(S.extract n S.size).size<=1048576:=by
   have h:(S.extract n S.size).size=(s.drop n).length:=by rw [← e]; rfl
   rw [h,List.length_drop]
   omega
  exact readLine_calls _ (s.drop n) q e hz (hL.below hq nr)
 have B0:BgSt w s [] (.slice none 0 0) (fun _=>zeroR) w:=⟨BegTo.nil s,OwnRS.nil _ _ _,fun j hj=>by simp at hj,fun j hj=>by simp at hj,br,fun j hj=>by simp at hj⟩
 clear hL
 go_enter Tryz.func41,Tryz.ntmps41
 go_wp2
 go_loopw [4,5] (fun v i wr=>∃ (ls:List Ln) (R:Nat->Rcm) (N:Nat) (V:Value),v=V/\i=.int .i64 N/\Hid ((flatLn ls).length=N)/\BgSt w s ls V R wr) (fun _ i _=>S.size - (intOf i).toNat)
 case atStart=>exact ⟨[],_,0,_,rfl,rfl,rfl,B0⟩
 case round =>
  obtain ⟨ls,R,N,v,hv0,rfl,HN,B⟩:=hrel
  replace hv0:=hv0.symm
  subst hv0
  have hNs:N<=S.size:=by have:=B.beg.le; have:=HN.out; omega
  have n0:(0:Int)<=(N:Int):=by omega
  have n1:(N:Int)<=(S.size:Int):=by omega
  have hlen:=B.beg.len
  have SP:=KP.out N wr hNs B.old
  obtain ⟨M,HM⟩:=nm (ls.length)
  have hM100:M<=100:=by rw [← HM.out]; exact hlen
  go_wp2_with fail
  refine SP.mono ?_
  rintro e w2 ⟨hp,hw2⟩
  have B2:=B.below hw2
  rcases hp with ⟨l,x,hIs,hx,lx,hfr,rfl⟩ | ⟨hno,rfl⟩
  ·have HIs:Hid (IsLine (s.drop (flatLn ls).length) l):=by rw [HN.out]; exact hIs
   have HX:=Lib.hid hx
   have hfar:x.n=0\/∀ bb oo,x.a=some ⟨bb,oo,none⟩->v.ownBlock ≠ some bb:=.inr fun bb oo e=>by
    have h1:=hfr bb oo e
    rcases B.own.blk with h | ⟨g,h,_,hlt⟩
    ·rw [h]; simp
    ·rw [h]; intro e2; simp only [Option.some.injEq] at e2; omega
   have HFrx:Hid (∀ bb oo,x.a=some ⟨bb,oo,none⟩->w.heap.size<=bb):=fun bb oo e=>Nat.le_trans B.old.size (hfr bb oo e)
   have hxs:x.s=l.s:=by rw [← hx]; rfl
   have hlt:1<=l.text.length:=text_ne l
   have hle:N+l.text.length<=S.size:=by
    have h:=hIs.2.length_le
    rw [List.length_drop] at h
    omega
   obtain ⟨TL,HTL⟩:=nm (l.text.length)
   rw [HTL.out] at hlt hle
   by_cases hst:l.s=(M:Int)
   ·obtain ⟨R',hR'⟩:∃ R':Nat->Rcm,R'=fun j=>if j < M then R j else x:=⟨_,rfl⟩
    have hRM:R' ls.length=x:=by rw [hR',HM.out]; simp
    have hRlt:∀ j,j < ls.length->R j=R' j:=fun j hj=>by rw [hR']; simp only; rw [if_pos (by rw [← HM.out]; exact hj)]
    have HOw:Hid (∀ q,Below w2.heap.size w2 q->OwnRS w.heap.size q v M R'):=fun q hq=>by rw [← HM.out]; exact (B2.own.below hq).congr hRlt
    have HBq:Hid (∀ q,Below w2.heap.size w2 q->BgSt w s ls v R' q):=fun q hq=>by
     have h:=B2.below hq
     exact ⟨h.beg,h.own.congr hRlt,fun j hj=>by rw [← hRlt j hj]; exact h.eq j hj,fun j hj=>by rw [← hRlt j hj]; exact h.lst j hj,h.old,fun j hj=>by rw [← hRlt j hj]; exact h.fr j hj⟩
    have hxM:R' M=x:=by rw [← HM.out]; exact hRM
    have HRM:=Lib.hid hRM
    have Hlx:=Lib.hid (fun q (hq:Below w2.heap.size w2 q)=>lx.below hq nr)
    have Hst:Hid (l.s=(ls.length:Int)):=by rw [HM.out]; exact hst
    have hMc:v.ownBlock=none\/True:=.inr trivial
    obtain ⟨av,cv,hv,_⟩:=B.own.recs (D:=fun j=>(lnAt ls j).b) (fun i hi=>(B.lst i hi).1)
    rw [HM.out] at hv
    subst hv
    have HFar:=Lib.hid hfar
    clear hR' hRlt hx hIs lx hfr hfar hMc
    obtain ⟨xs,xa,xn,xk,xr,xroot,xchain⟩:=x
    simp only [Rcm.val,Rcm.cells] at *
    have hne1:(xs != (M:Int))=false:=by rw [bne_eq_false_iff_eq]; omega
    clear hxs hst
    have A1:Below w2.heap.size w2 (w2.alloc (.cells #[.int .i64 xs,.slice xa xn xk,.int .i64 xr,.int .u64 xroot,.int .u64 xchain] 111)):=br.alloc nr _
    have A2:=A1.alloc A1.size (.cells #[.int .i64 xs,.slice xa xn xk,.int .i64 xr,.int .u64 xroot,.int .u64 xchain] 111)
    have RW:((w2.alloc (.cells #[.int .i64 xs,.slice xa xn xk,.int .i64 xr,.int .u64 xroot,.int .u64 xchain] 111)).alloc (.cells #[.int .i64 xs,.slice xa xn xk,.int .i64 xr,.int .u64 xroot,.int .u64 xchain] 111)).rowIs (w2.heap.size+1) 111 5 (fn5 (.int .i64 (R' M).s) (.slice (R' M).a (R' M).n (R' M).k) (.int .i64 (R' M).r) (.int .u64 (R' M).root) (.int .u64 (R' M).chain)):=by
     rw [hxM]
     have h:=Zao (w2.alloc (.cells #[.int .i64 xs,.slice xa xn xk,.int .i64 xr,.int .u64 xroot,.int .u64 xchain] 111)) (.int .i64 xs) (.slice xa xn xk) (.int .i64 xr) (.int .u64 xroot) (.int .u64 xchain) 111
     simpa using h
    have O2:=HOw.out _ A2
    have BQ:=HBq.out _ A2
    have LX:=Hlx.out _ A2
    have hbs:=BQ.old.size
    have HG:=Lib.hid RW
    have OO:=Lib.hid O2
    clear RW O2 hxM hRM
    rw [HTL.out]
    go_wp2_with (at_builtin; refine ZbT (by rfl) _ _ (by rfl) w.heap.size (.slice av M cv) M R' (w2.heap.size+1) (by rfl) (by rfl) (by exact OO.out) (by exact HG.out) (by omega) (by exact hbs) ?_; intro v9 w9 O9 G9 H9)
    go_roundw
    case rel =>
     refine ⟨ls ++ [l],R',N+TL,_,by trivial,by go_num,?_,?_⟩
     ·show _=_
      rw [flatL_snoc,List.length_append,HN.out,HTL.out]
     ·refine BQ.push HIs.out Hst.out HX.out LX HFar.out HRM.out (by rw [HM.out]; exact O9) G9 H9 ?_ HFrx.out
      exact BQ.old.grown G9 hbs (fun k hk=>by
       rcases BQ.own.blk with h | ⟨g,h,hg,_⟩
       ·rw [h] at hk; cases hk
       ·rw [h] at hk; simp only [Option.some.injEq] at hk; omega)
    case measure=>simp [intOf]; omega
   ·have HBg:Hid (Beg s ls):=⟨B2.beg,fun m hm e=>by
     have:=HIs.out.unique hm
     subst this
     rw [HM.out] at e
     exact hst e⟩
    clear hx hIs lx hfr hfar
    obtain ⟨xs,xa,xn,xk,xr,xroot,xchain⟩:=x
    simp only [Rcm.val,Rcm.cells] at *
    have hne1:(xs != (M:Int))=true:=by rw [bne_iff_ne]; omega
    clear hxs hst
    obtain ⟨av,cv,hv,RC⟩:=(B2.below (Joins.below_alloc1 w2 (.cells #[.int .i64 xs,.slice xa xn xk,.int .i64 xr,.int .u64 xroot,.int .u64 xchain] 111))).own.recs (D:=fun j=>(lnAt ls j).b) (fun i hi=>((B2.below (Joins.below_alloc1 w2 (.cells #[.int .i64 xs,.slice xa xn xk,.int .i64 xr,.int .u64 xroot,.int .u64 xchain] 111))).lst i hi).1)
    rw [HM.out] at hv RC
    subst hv
    have HRC:=Lib.hid RC
    have HO:=Lib.hid (B2.below (Joins.below_alloc1 w2 (.cells #[.int .i64 xs,.slice xa xn xk,.int .i64 xr,.int .u64 xroot,.int .u64 xchain] 111)))
    clear RC
    go_wp2
    go_ret2
    exact ⟨⟨ls,av,cv,R,HBg.out,HO.out.eq,by rw [HM.out]; exact HRC.out,⟨OwnRS.fresh (show OwnRS w.heap.size _ (.slice av ls.length cv) ls.length R by rw [HM.out]; have h:=HO.out.own; rw [HM.out] at h; exact h),HO.out.fr⟩,by rw [HM.out,HN.out]; rfl⟩,HO.out.old⟩
  ·have HBg:Hid (Beg s ls):=⟨B2.beg,fun m hm _=>hno m (by rw [← HN.out]; exact hm)⟩
   clear hno
   unfold zeroR Rcm.val Rcm.cells
   dsimp only
   obtain ⟨av,cv,hv,RC⟩:=(B2.below (Joins.below_alloc1 w2 (.cells #[.int .i64 0,.slice none 0 0,.int .i64 0,.int .u64 0,.int .u64 0] 111))).own.recs (D:=fun j=>(lnAt ls j).b) (fun i hi=>((B2.below (Joins.below_alloc1 w2 (.cells #[.int .i64 0,.slice none 0 0,.int .i64 0,.int .u64 0,.int .u64 0] 111))).lst i hi).1)
   rw [HM.out] at hv RC
   subst hv
   have HRC:=Lib.hid RC
   have HO:=Lib.hid (B2.below (Joins.below_alloc1 w2 (.cells #[.int .i64 0,.slice none 0 0,.int .i64 0,.int .u64 0,.int .u64 0] 111)))
   clear RC
   go_wp2
   go_ret2
   exact ⟨⟨ls,av,cv,R,HBg.out,HO.out.eq,by rw [HM.out]; exact HRC.out,⟨OwnRS.fresh (show OwnRS w.heap.size _ (.slice av ls.length cv) ls.length R by rw [HM.out]; have h:=HO.out.own; rw [HM.out] at h; exact h),HO.out.fr⟩,by rw [HM.out,HN.out]; rfl⟩,HO.out.old⟩
theorem join_snoc (b:UInt8) (ws:List (List UInt8)) (x:List UInt8) (h:ws ≠ []):Lib.join (ws ++ [x]) [b]=Lib.join ws [b] ++ ([b] ++ x):=by
 have e:=List.dropLast_concat_getLast h
 rw [← e,Zcv,Zcv]
 simp [glue]
def preL (s r root chain:Int) (D:List Int) (q:Nat):List UInt8:=Lib.join (([s,r,root,chain] ++ D.take q).map dg) [32]
theorem preL_zero (s r root chain:Int) (D:List Int):preL s r root chain D 0=dg s ++ [32] ++ dg r ++ [32] ++ dg root ++ [32] ++ dg chain:=by
 simp [preL,Lib.join,List.intercalate,List.intersperse]
theorem preL_succ {s r root chain:Int} {D:List Int} {q:Nat} (h:q < D.length):preL s r root chain D (q+1)=preL s r root chain D q ++ ([32] ++ dg (D.getD q 0)):=by
 unfold preL
 rw [List.take_add_one,List.getElem?_eq_getElem h,Option.toList_some,← List.append_assoc,List.map_append (l₂:=[D[q]]),List.map_singleton,join_snoc 32 _ _ (by simp),List.getD_eq_getElem?_getD,List.getElem?_eq_getElem h]
 rfl
theorem preL_all {s r root chain:Int} {D:List Int} {q:Nat} (h:D.length=q):preL s r root chain D q ++ [10]=Ln.text ⟨s,r,root,chain,D⟩:=by
 subst h
 rw [preL,List.take_length]
 rfl
theorem rtext_calls (x:Rcm) (D:List Int) (w:World) (hl:Lst w x.a x.n x.k D) (ok:(x.ln D).ok) (hL:LD w) :
  Calls Tryz.prog 66 #[x.val] w fun e w'=>e=.returned (.string ⟨(x.ln D).text.toArray⟩)/\Below w.heap.size w w':=by
 obtain ⟨s,a,n,k,r,root,chain⟩:=x
 simp only [Rcm.val,Rcm.cells,Rcm.ln] at *
 have hal:=(Below.refl w.heap.size w).alloc nr (.cells #[.int .i64 s,.slice a n k,.int .i64 r,.int .u64 root,.int .u64 chain] 111)
 have HN:Hid (D.length=n):=hl.len
 have HK:Hid (Ln.ok ⟨s,r,root,chain,D⟩):=ok
 obtain ⟨A1,E1⟩:∃ A:ByteArray,Hid (A=⟨(dg s).toArray⟩):=⟨_,rfl⟩
 obtain ⟨A2,E2⟩:∃ A:ByteArray,Hid (A=⟨(dg r).toArray⟩):=⟨_,rfl⟩
 obtain ⟨A3,E3⟩:∃ A:ByteArray,Hid (A=⟨(dg root).toArray⟩):=⟨_,rfl⟩
 obtain ⟨A4,E4⟩:∃ A:ByteArray,Hid (A=⟨(dg chain).toArray⟩):=⟨_,rfl⟩
 have z1:A1.size<=2:=by rw [E1.out,sz_arr]; exact Zbf (by omega) ok.s.1 (by have:=ok.s.2; dsimp only at *; omega)
 have z2:A2.size<=10:=by rw [E2.out,sz_arr]; exact Zbf (by omega) ok.r.1 (by have:=ok.r.2; dsimp only at *; omega)
 have z3:A3.size<=19:=by rw [E3.out,sz_arr]; exact Zbf (by omega) ok.root.1 (by have:=ok.root.2; dsimp only at *; omega)
 have z4:A4.size<=19:=by rw [E4.out,sz_arr]; exact Zbf (by omega) ok.chain.1 (by have:=ok.chain.2; dsimp only at *; omega)
 have m1:¬ 9223372036854775807 < A1.size+1:=by omega
 have m2:¬ 9223372036854775807 < A1.size+1+A2.size:=by omega
 have m3:¬ 9223372036854775807 < A1.size+1+A2.size+1:=by omega
 have m4:¬ 9223372036854775807 < A1.size+1+A2.size+1+A3.size:=by omega
 have m5:¬ 9223372036854775807 < A1.size+1+A2.size+1+A3.size+1:=by omega
 have m6:¬ 9223372036854775807 < A1.size+1+A2.size+1+A3.size+1+A4.size:=by omega
 obtain ⟨W,HW⟩:=nm (w.alloc (.cells #[.int .i64 s,.slice a n k,.int .i64 r,.int .u64 root,.int .u64 chain] 111))
 have hW:Below w.heap.size w W:=by rw [← HW.out]; exact hal
 have KB:Hid (∀ q,Below W.heap.size W q->Box5 q w.heap.size (.int .i64 s) (.slice a n k) (.int .i64 r) (.int .u64 root) (.int .u64 chain)):=fun q hq=>box5 _ _ _ _ _ 111 (B:=w.heap.size+1) (by rw [HW.out]; exact hq.mono (by rw [← HW.out]; simp)) (Nat.lt_succ_self _)
 have KL:Hid (∀ q,Below W.heap.size W q->LD q):=fun q hq=>hL.below (hW.trans (hq.mono hW.size)) nr
 have I1:Hid (∀ q,Below W.heap.size W q->Calls Tryz.prog 28 #[.int .i64 s] q fun e w'=>e=.returned (.string A1)/\Below q.heap.size q w'):=fun q hq=>by rw [E1.out]; exact Zbz s ok.s.1 (by have:=ok.s.2; dsimp only at *; omega) q (KL.out q hq)
 have I2:Hid (∀ q,Below W.heap.size W q->Calls Tryz.prog 28 #[.int .i64 r] q fun e w'=>e=.returned (.string A2)/\Below q.heap.size q w'):=fun q hq=>by rw [E2.out]; exact Zbz r ok.r.1 (by have:=ok.r.2; dsimp only at *; omega) q (KL.out q hq)
 have I3:Hid (∀ q,Below W.heap.size W q->Calls Tryz.prog 102 #[.int .u64 root,.int .i64 10] q fun e w'=>e=.returned (.string A3)/\Below q.heap.size q w'):=fun q hq=>by rw [E3.out]; exact ZbS root ok.root.1 (by have:=ok.root.2; dsimp only at *; omega) q (KL.out q hq)
 have I4:Hid (∀ q,Below W.heap.size W q->Calls Tryz.prog 102 #[.int .u64 chain,.int .i64 10] q fun e w'=>e=.returned (.string A4)/\Below q.heap.size q w'):=fun q hq=>by rw [E4.out]; exact ZbS chain ok.chain.1 (by have:=ok.chain.2; dsimp only at *; omega) q (KL.out q hq)
 have KS:Hid (∀ q,Below W.heap.size W q->q.cell? ⟨w.heap.size,0,none⟩=some (.int .i64 s)/\q.cell? ⟨w.heap.size,2,none⟩=some (.int .i64 r)/\q.cell? ⟨w.heap.size,3,none⟩=some (.int .u64 root)/\q.cell? ⟨w.heap.size,4,none⟩=some (.int .u64 chain)):=fun q hq=>⟨(KB.out q hq).c0,(KB.out q hq).c2,(KB.out q hq).c3,(KB.out q hq).c4⟩
 have l1:=hl.below hW nr
 have hBd:Below W.heap.size W W.drew:=Below.drew br
 have S0:=KS.out _ hBd
 have n8:=ok.n
 dsimp only at n8
 rw [HN.out] at n8
 clear hL hl ok hal
 go_enter Tryz.func66,Tryz.ntmps66
 go_wp2_with fail
 rw [HW.out]
 clear HW
 go_region_held3 (fun q=>q.cell? ⟨w.heap.size,0,none⟩=some (.int .i64 s)/\q.cell? ⟨w.heap.size,2,none⟩=some (.int .i64 r)/\q.cell? ⟨w.heap.size,3,none⟩=some (.int .u64 root)/\q.cell? ⟨w.heap.size,4,none⟩=some (.int .u64 chain)) (first | with_reducible exact S4 | with_reducible exact S3 | with_reducible exact S2 | with_reducible exact S1 | with_reducible exact S0)
  (first | (go_at_call 102; refine (I4.out _ T3).mono ?_; rintro e q4 ⟨rfl,hq4⟩; have T4:=T3.trans (hq4.mono T3.size); have S4:=KS.out _ T4) | (go_at_call 102; refine (I3.out _ T2).mono ?_; rintro e q3 ⟨rfl,hq3⟩; have T3:=T2.trans (hq3.mono T2.size); have S3:=KS.out _ T3) | (go_at_call 28; refine (I2.out _ T1).mono ?_; rintro e q2 ⟨rfl,hq2⟩; have T2:=T1.trans (hq2.mono T1.size); have S2:=KS.out _ T2) | (go_at_call 28; refine (I1.out _ hBd).mono ?_; rintro e q1 ⟨rfl,hq1⟩; have T1:=undrewS hq1; have S1:=KS.out _ T1))
 all_goals
  clear S0 S1 S2 S3 S4 hq1 hq2 hq3 hq4 T1 T2 T3 m1 m2 m3 m4 m5 m6
  obtain ⟨X0,HX0⟩:=nm (A1 ++ ⟨#[32]⟩ ++ A2 ++ ⟨#[32]⟩ ++ A3 ++ ⟨#[32]⟩ ++ A4)
  have zx:X0.size<=53:=by rw [← HX0.out]; simp only [ByteArray.size_append]; show A1.size+1+A2.size+1+A3.size+1+A4.size<=53; omega
  have HX:Hid (X0=⟨(preL s r root chain D 0).toArray⟩):=by
   show _=_
   rw [← HX0.out,E1.out,E2.out,E3.out,E4.out,preL_zero]
   apply ByteArray.ext
   simp
  rw [HX0.out]
  clear HX0
  go_wp2
  go_loopw [3,4] (fun v i wr=>∃ (q:Nat) (X:ByteArray),q<=n/\v=.string X/\i=.int .i64 q/\Hid (X=⟨(preL s r root chain D q).toArray⟩)/\X.size<=53+3 * q/\Below W.heap.size W wr) (fun _ i _=>n - (intOf i).toNat)
  case atStart=>exact ⟨0,X0,Nat.zero_le _,rfl,rfl,HX,by omega,T4⟩
  case round =>
   obtain ⟨q,X,hq,rfl,rfl,HQ,hsz,TR⟩:=hrel
   have C1:=(KB.out _ TR).c1
   by_cases hlt:q < n
   ·obtain ⟨b1,o1,z,rfl,g1,c1,HZ⟩:=l1.at1b TR nr hlt
    have hqD:q < D.length:=by rw [HN.out]; exact hlt
    have hz:=HK.out.b z (by rw [← HZ.out]; exact getD_mem hqD)
    obtain ⟨A5,E5⟩:∃ A:ByteArray,Hid (A=⟨(dg z).toArray⟩):=⟨_,rfl⟩
    have z5:A5.size<=2:=by rw [E5.out,sz_arr]; exact Zbf (by omega) hz.1 (by have:=hz.2; omega)
    have I5:Calls Tryz.prog 28 #[.int .i64 z] wr fun e w'=>e=.returned (.string A5)/\Below wr.heap.size wr w':=by rw [E5.out]; exact Zbz z hz.1 (by have:=hz.2; omega) wr (KL.out _ TR)
    have HI5:=Lib.hid I5
    have m1:¬ 9223372036854775807 < 1+A5.size:=by omega
    have m2:¬ 9223372036854775807 < X.size+(1+A5.size):=by omega
    have HS:Hid (X ++ (⟨#[32]⟩ ++ A5)=⟨(preL s r root chain D (q+1)).toArray⟩):=by
     show _=_
     rw [HQ.out,E5.out,preL_succ hqD,HZ.out]
     apply ByteArray.ext
     simp
    have HSz:Hid ((X ++ (⟨#[32]⟩ ++ A5)).size<=53+3 * (q+1)):=by
     show _<=_
     simp only [ByteArray.size_append]
     show X.size+(1+A5.size)<=53+3 * (q+1)
     omega
    clear hz I5
    go_wp2_with (go_at_call 28; refine (HI5.out).mono ?_; rintro e q6 ⟨rfl,hq6⟩)
    go_roundw
    case rel=>exact ⟨q+1,_,by omega,by trivial,by go_num,HS,HSz.out,TR.trans (hq6.mono TR.size)⟩
    case measure=>simp [intOf]; omega
   ·obtain rfl:q=n:=by omega
    have m1:¬ 9223372036854775807 < X.size+1:=by omega
    go_wp2
    go_ret
    refine ⟨?_,hW.trans (TR.mono hW.size)⟩
    show Ending.returned (.string (X ++ ⟨#[10]⟩))=_
    rw [HQ.out,Zcc,preL_all HN.out]
end Go.Proofs.YthmiojmlaclgaaaGreatDoor.Fx
