/- What the law stands on: RefDkB. -/
import Derived.Test.YthmiojmlaclgaaaGreatDoorJ00
import Derived.Test.YthmiojmlaclgaaaGreatDoorJ29
import Derived.Test.YthmiojmlaclgaaaGreatDoorJ28
import Derived.Test.YthmiojmlaclgaaaGreatDoorJ09
import Derived.LoopN
set_option maxRecDepth 100000
set_option maxHeartbeats 12800000
namespace Go.Proofs.YthmiojmlaclgaaaGreatDoor.Fx
open Go.RowKit
def DigR (x:List UInt8) (e:Ending):Prop:=(∃ v,numO x=some v/\e=.returned (.tuple #[.int .i64 v,.bool true]))\/(numO x=none/\∃ z,e=.returned (.tuple #[.int .i64 z,.bool false]))
theorem in_len {n:Nat}:inB (n:Int) 1 10=decide (1<=n/\n<=10):=by
 unfold inB
 by_cases h:1<=n/\n<=10
 ·rw [decide_eq_true h,decide_eq_true (by omega),decide_eq_true (by omega)]; rfl
 ·rw [decide_eq_false h]
  by_cases h1:(1:Int)<=(n:Int)
  ·rw [decide_eq_false (show ¬ (n:Int)<=10 by omega),Bool.and_false]
  ·rw [decide_eq_false h1,Bool.false_and]
theorem digits_neg (x:List UInt8) (hx:x.length<=1048576) (w:World) (hL:LD w) (r:List UInt8) (hx0:x=45 :: r) :
  Calls Tryz.prog 62 #[.string ⟨x.toArray⟩] w fun e w'=>DigR x e/\Below w.heap.size w w':=by
 obtain ⟨S,HS⟩:=nm ((⟨x.toArray⟩:ByteArray))
 have hS:S.data.toList=x:=by rw [← HS.out]
 have hsl:x.length=S.size:=by rw [← HS.out]; rfl
 have HT:Hid (Lib.trimPrefix x [45]=r):=by show _=_; rw [hx0,trim_minus]
 obtain ⟨B,HBX⟩:=nm (S.extract 1 S.size)
 have x1:S.extract 1 S.size=B:=HBX.out
 have hB:Hid (B.data.toList=r):=by show _=_; rw [← HBX.out,Lib.extract_to_end,hS,hx0]; rfl
 have hbl:r.length=B.size:=by rw [← hB.out]; rfl
 have hxl:r.length+1<=x.length:=by rw [hx0]; exact nr
 have hxm:x.length<=r.length+1:=by rw [hx0]; exact nr
 have b0:(0:Int) < (S.size:Int):=by omega
 have b1:0 < S.size:=by omega
 have b2:(1:Int)<=(S.size:Int):=by omega
 have b3:1<=S.size:=by omega
 have c0:((S[0].toNat:Int) == 45)=true:=by
  obtain ⟨hq,e⟩:=Zcd hS b1
  have e2:x[0]=45:=by simp [hx0]
  rw [e,e2]; rfl
 have k1:((B.size:Int) != (S.size:Int))=true:=by rw [bne_iff_ne]; omega
 clear hx0 hS
 obtain ⟨b,rfl⟩:∃ b,b=r:=⟨_,rfl⟩
 have HSG:Hid (sgnI x=(-(valN b:Int))):=by
  show _=_
  unfold sgnI
  rw [HT.out,if_neg (by omega)]
 rw [HS.out]
 go_enter Tryz.func62,Tryz.ntmps62
 go_wp2
 go_loopw [5,6] (fun v i wr=>∃ (q:Nat) (z:Int),q<=B.size/\q<=11/\v=.int .i64 z/\i=.int .i64 q/\Hid (z=(valN (b.take q):Int)/\valN (b.take q) < 10 ^ q/\∀ j (hj:j < b.length),j < q->48<=b[j].toNat/\b[j].toNat<=57)/\wr=w) (fun _ i _=>11 - (intOf i).toNat)
 case atStart=>exact ⟨0,0,Nat.zero_le _,by omega,rfl,rfl,⟨rfl,by simp [valN],fun j _ hj=>by omega⟩,rfl⟩
 case round =>
  obtain ⟨q,z,hq,hq11,rfl,rfl,HR,hw⟩:=hrel
  replace hw:=hw.symm
  subst hw
  have hz0:0<=z:=by rw [HR.out.1]; omega
  by_cases hlt:q < B.size/\q < 11
  ·obtain ⟨h1,h2⟩:=hlt
   have q0:(0:Int)<=(q:Int):=by omega
   have q1:(q:Int) < (B.size:Int):=by omega
   have q2:(q:Int) < 11:=by omega
   obtain ⟨hqs,hb⟩:=Zcd hB.out h1
   have HTk:Hid (b.take (q+1)=b.take q ++ [b[q]]):=by show _=_; rw [List.take_add_one,List.getElem?_eq_getElem hqs,Option.toList_some]
   have hz1:z < 10000000000:=by
    have hp:10 ^ q<=10000000000:=Nat.le_trans (Nat.pow_le_pow_right (by decide) (show q<=10 by omega)) (by decide)
    have:=HR.out.1
    have:=HR.out.2.1
    omega
   by_cases hd:48<=b[q].toNat/\b[q].toNat<=57
   ·have d0:(48:Int)<=(B[q].toNat:Int):=by rw [hb]; omega
    have d1:(B[q].toNat:Int)<=57:=by rw [hb]; omega
    have HN:Hid (z * 10+(B[q].toNat:Int) - 48=(valN (b.take (q+1)):Int)/\valN (b.take (q+1)) < 10 ^ (q+1)/\∀ j (hj:j < b.length),j < q+1->48<=b[j].toNat/\b[j].toNat<=57):=by
     obtain ⟨e1,e2,e3⟩:=HR.out
     rw [HTk.out,valN_snoc,Nat.pow_succ,hb]
     refine ⟨by omega,by omega,fun j hj hjq=>?_⟩
     by_cases e:j=q
     ·subst e; exact hd
     ·exact e3 j hj (by omega)
    clear hb hd
    go_wp2
    go_roundw
    case rel=>exact ⟨q+1,_,by omega,by omega,by trivial,by go_num,HN,by trivial⟩
    case measure=>simp [intOf]; omega
   ·have HE:Hid (numO x=none):=num_bad (c:=b[q]) (by rw [HT.out]; exact List.getElem_mem hqs) hd
    by_cases hd0:(B[q].toNat:Int) < 48
    ·clear hb hd
     go_wp2
     go_ret2
     exact ⟨.inr ⟨HE.out,_,rfl⟩,br⟩
    ·have hd1:57 < (B[q].toNat:Int):=by rw [hb] at hd0 ⊢; omega
     clear hb hd
     go_wp2
     go_ret2
     exact ⟨.inr ⟨HE.out,_,rfl⟩,br⟩
  ·have hz2:z < 100000000000:=by
    have hp:10 ^ q<=100000000000:=Nat.le_trans (Nat.pow_le_pow_right (by decide) hq11) (by decide)
    have:=HR.out.1
    have:=HR.out.2.1
    omega
   have RI:=Zct (B.size:Int) 1 10 w
   rw [in_len] at RI
   by_cases h10:B.size<=10
   ·obtain rfl:q=B.size:=by omega
    have hsv:b.take B.size=b:=List.take_of_length_le (by omega)
    have HZ:Hid (-z=sgnI x):=by show _=_; rw [HSG.out,HR.out.1,hsv]
    have HI:=Lib.hid (ZaC (-z) (by omega) (by omega) w hL)
    by_cases h0:B.size=0
    ·rw [decide_eq_false (by omega)] at RI
     have HE:Hid (numO x=none):=num_empty (by rw [HT.out]; exact List.length_eq_zero_iff.1 (by omega))
     clear h0 hlt HI HZ
     go_wp2_with (go_at_call 64; refine RI.mono ?_; rintro e w1 ⟨rfl,hw1⟩; replace hw1:=hw1.symm; subst hw1)
     go_ret2
     exact ⟨.inr ⟨HE.out,_,rfl⟩,br⟩
    ·rw [decide_eq_true (by omega)] at RI
     have HNI:Hid (numO x=if Lib.itoa (-z)=x then some (-z) else none):=by
      show _=_
      have h:=num_is (x:=x) (by rw [HT.out]; omega)
      rw [← HZ.out] at h
      exact h
     by_cases hc:Lib.itoa (-z)=x
     ·have hcm:((⟨(Lib.itoa (-z)).toArray⟩:ByteArray).toList == S.toList)=true:=by rw [← HS.out,strEq]; exact decide_eq_true hc
      rw [if_pos hc] at HNI
      obtain ⟨Y,HY⟩:=nm ((⟨(Lib.itoa (-z)).toArray⟩:ByteArray))
      rw [HY.out] at HI hcm
      clear hc hlt HZ
      go_wp2_with (first | (go_at_call 64; refine RI.mono ?_; rintro e w1 ⟨rfl,hw1⟩; replace hw1:=hw1.symm; subst hw1) | (go_at_call 28; refine HI.out.mono ?_; rintro e w2 ⟨rfl,hw2⟩))
      go_ret2
      exact ⟨.inl ⟨_,HNI.out,rfl⟩,hw2⟩
     ·have hcm:((⟨(Lib.itoa (-z)).toArray⟩:ByteArray).toList == S.toList)=false:=by rw [← HS.out,strEq]; exact decide_eq_false hc
      rw [if_neg hc] at HNI
      obtain ⟨Y,HY⟩:=nm ((⟨(Lib.itoa (-z)).toArray⟩:ByteArray))
      rw [HY.out] at HI hcm
      clear hc hlt HZ
      go_wp2_with (first | (go_at_call 64; refine RI.mono ?_; rintro e w1 ⟨rfl,hw1⟩; replace hw1:=hw1.symm; subst hw1) | (go_at_call 28; refine HI.out.mono ?_; rintro e w2 ⟨rfl,hw2⟩))
      go_ret2
      exact ⟨.inr ⟨HNI.out,_,rfl⟩,hw2⟩
   ·obtain rfl:q=11:=by omega
    rw [decide_eq_false (by omega)] at RI
    have HE:Hid (numO x=none):=num_long (by rw [HT.out]; omega)
    clear hlt
    go_wp2_with (go_at_call 64; refine RI.mono ?_; rintro e w1 ⟨rfl,hw1⟩; replace hw1:=hw1.symm; subst hw1)
    all_goals
     go_ret2
     exact ⟨.inr ⟨HE.out,_,rfl⟩,br⟩
theorem digits_pos (x:List UInt8) (hx:x.length<=1048576) (w:World) (hL:LD w) (hx0:x.headD 0 ≠ 45) (he:x ≠ []) :
  Calls Tryz.prog 62 #[.string ⟨x.toArray⟩] w fun e w'=>DigR x e/\Below w.heap.size w w':=by
 obtain ⟨S,HS⟩:=nm ((⟨x.toArray⟩:ByteArray))
 have hS:S.data.toList=x:=by rw [← HS.out]
 have hsl:x.length=S.size:=by rw [← HS.out]; rfl
 have HT:Hid (Lib.trimPrefix x [45]=x):=by
  show _=_
  cases x with
  | nil=>rfl
  | cons c r=>exact trim_other hx0
 obtain ⟨B,HBX⟩:=nm (S)
 obtain rfl:S=B:=HBX.out
 have hB:Hid (S.data.toList=x):=hS
 have hbl:x.length=S.size:=hsl
 have k1:((S.size:Int) != (S.size:Int))=false:=by rw [bne_eq_false_iff_eq]
 have HSG:Hid (sgnI x=(valN x:Int)):=by
  show _=_
  unfold sgnI
  rw [HT.out,if_pos rfl]
 rw [HS.out]
 ·have b1:0 < S.size:=by
   rw [← hsl]
   cases x with
   | nil=>exact absurd rfl he
   | cons c r=>simp
  have b0:(0:Int) < (S.size:Int):=by omega
  have c0:((S[0].toNat:Int) == 45)=false:=by
   obtain ⟨hq,e⟩:=Zcd hS b1
   rw [e,beq_eq_false_iff_ne]
   intro e2
   cases x with
   | nil=>exact he rfl
   | cons c r =>
     apply hx0
     apply UInt8.toNat_inj.1
     have e3:((45:UInt8).toNat:Int)=45:=rfl
     have e4:(c.toNat:Int)=45:=e2
     show c.toNat=(45:UInt8).toNat
     omega
  clear hx0 he hS
  go_enter Tryz.func62,Tryz.ntmps62
  go_wp2
  go_loopw [5,6] (fun v i wr=>∃ (q:Nat) (z:Int),q<=S.size/\q<=11/\v=.int .i64 z/\i=.int .i64 q/\Hid (z=(valN (x.take q):Int)/\valN (x.take q) < 10 ^ q/\∀ j (hj:j < x.length),j < q->48<=x[j].toNat/\x[j].toNat<=57)/\wr=w) (fun _ i _=>11 - (intOf i).toNat)
  case atStart=>exact ⟨0,0,Nat.zero_le _,by omega,rfl,rfl,⟨rfl,by simp [valN],fun j _ hj=>by omega⟩,rfl⟩
  case round =>
   obtain ⟨q,z,hq,hq11,rfl,rfl,HR,hw⟩:=hrel
   replace hw:=hw.symm
   subst hw
   have hz0:0<=z:=by rw [HR.out.1]; omega
   by_cases hlt:q < S.size/\q < 11
   ·obtain ⟨h1,h2⟩:=hlt
    have q0:(0:Int)<=(q:Int):=by omega
    have q1:(q:Int) < (S.size:Int):=by omega
    have q2:(q:Int) < 11:=by omega
    obtain ⟨hqs,hb⟩:=Zcd hB.out h1
    have HTk:Hid (x.take (q+1)=x.take q ++ [x[q]]):=by show _=_; rw [List.take_add_one,List.getElem?_eq_getElem hqs,Option.toList_some]
    have hz1:z < 10000000000:=by
     have hp:10 ^ q<=10000000000:=Nat.le_trans (Nat.pow_le_pow_right (by decide) (show q<=10 by omega)) (by decide)
     have:=HR.out.1
     have:=HR.out.2.1
     omega
    by_cases hd:48<=x[q].toNat/\x[q].toNat<=57
    ·have d0:(48:Int)<=(S[q].toNat:Int):=by rw [hb]; omega
     have d1:(S[q].toNat:Int)<=57:=by rw [hb]; omega
     have HN:Hid (z * 10+(S[q].toNat:Int) - 48=(valN (x.take (q+1)):Int)/\valN (x.take (q+1)) < 10 ^ (q+1)/\∀ j (hj:j < x.length),j < q+1->48<=x[j].toNat/\x[j].toNat<=57):=by
      obtain ⟨e1,e2,e3⟩:=HR.out
      rw [HTk.out,valN_snoc,Nat.pow_succ,hb]
      refine ⟨by omega,by omega,fun j hj hjq=>?_⟩
      by_cases e:j=q
      ·subst e; exact hd
      ·exact e3 j hj (by omega)
     clear hb hd
     go_wp2
     go_roundw
     case rel=>exact ⟨q+1,_,by omega,by omega,by trivial,by go_num,HN,by trivial⟩
     case measure=>simp [intOf]; omega
    ·have HE:Hid (numO x=none):=num_bad (c:=x[q]) (by rw [HT.out]; exact List.getElem_mem hqs) hd
     by_cases hd0:(S[q].toNat:Int) < 48
     ·clear hb hd
      go_wp2
      go_ret2
      exact ⟨.inr ⟨HE.out,_,rfl⟩,br⟩
     ·have hd1:57 < (S[q].toNat:Int):=by rw [hb] at hd0 ⊢; omega
      clear hb hd
      go_wp2
      go_ret2
      exact ⟨.inr ⟨HE.out,_,rfl⟩,br⟩
   ·have hz2:z < 100000000000:=by
     have hp:10 ^ q<=100000000000:=Nat.le_trans (Nat.pow_le_pow_right (by decide) hq11) (by decide)
     have:=HR.out.1
     have:=HR.out.2.1
     omega
    have RI:=Zct (S.size:Int) 1 10 w
    rw [in_len] at RI
    by_cases h10:S.size<=10
    ·obtain rfl:q=S.size:=by omega
     have hsv:x.take S.size=x:=List.take_of_length_le (by omega)
     have HZ:Hid (z=sgnI x):=by show _=_; rw [HSG.out,HR.out.1,hsv]
     have HI:=Lib.hid (ZaC (z) (by omega) (by omega) w hL)
     by_cases h0:S.size=0
     ·rw [decide_eq_false (by omega)] at RI
      have HE:Hid (numO x=none):=num_empty (by rw [HT.out]; exact List.length_eq_zero_iff.1 (by omega))
      clear h0 hlt HI HZ
      go_wp2_with (go_at_call 64; refine RI.mono ?_; rintro e w1 ⟨rfl,hw1⟩; replace hw1:=hw1.symm; subst hw1)
      go_ret2
      exact ⟨.inr ⟨HE.out,_,rfl⟩,br⟩
     ·rw [decide_eq_true (by omega)] at RI
      have HNI:Hid (numO x=if Lib.itoa (z)=x then some (z) else none):=by
       show _=_
       have h:=num_is (x:=x) (by rw [HT.out]; omega)
       rw [← HZ.out] at h
       exact h
      by_cases hc:Lib.itoa (z)=x
      ·have hcm:((⟨(Lib.itoa (z)).toArray⟩:ByteArray).toList == S.toList)=true:=by rw [← HS.out,strEq]; exact decide_eq_true hc
       rw [if_pos hc] at HNI
       obtain ⟨Y,HY⟩:=nm ((⟨(Lib.itoa (z)).toArray⟩:ByteArray))
       rw [HY.out] at HI hcm
       clear hc hlt HZ
       go_wp2_with (first | (go_at_call 64; refine RI.mono ?_; rintro e w1 ⟨rfl,hw1⟩; replace hw1:=hw1.symm; subst hw1) | (go_at_call 28; refine HI.out.mono ?_; rintro e w2 ⟨rfl,hw2⟩))
       go_ret2
       exact ⟨.inl ⟨_,HNI.out,rfl⟩,hw2⟩
      ·have hcm:((⟨(Lib.itoa (z)).toArray⟩:ByteArray).toList == S.toList)=false:=by rw [← HS.out,strEq]; exact decide_eq_false hc
       rw [if_neg hc] at HNI
       obtain ⟨Y,HY⟩:=nm ((⟨(Lib.itoa (z)).toArray⟩:ByteArray))
       rw [HY.out] at HI hcm
       clear hc hlt HZ
       go_wp2_with (first | (go_at_call 64; refine RI.mono ?_; rintro e w1 ⟨rfl,hw1⟩; replace hw1:=hw1.symm; subst hw1) | (go_at_call 28; refine HI.out.mono ?_; rintro e w2 ⟨rfl,hw2⟩))
       go_ret2
       exact ⟨.inr ⟨HNI.out,_,rfl⟩,hw2⟩
    ·obtain rfl:q=11:=by omega
     rw [decide_eq_false (by omega)] at RI
     have HE:Hid (numO x=none):=num_long (by rw [HT.out]; omega)
     clear hlt
     go_wp2_with (go_at_call 64; refine RI.mono ?_; rintro e w1 ⟨rfl,hw1⟩; replace hw1:=hw1.symm; subst hw1)
     all_goals
      go_ret2
      exact ⟨.inr ⟨HE.out,_,rfl⟩,br⟩
theorem digits_nil (w:World):Calls Tryz.prog 62 #[.string ⟨([]:List UInt8).toArray⟩] w fun e w'=>DigR [] e/\Below w.heap.size w w':=by
 have HE:Hid (numO []=none):=num_empty rfl
 have RI:=Zct ((0:Nat):Int) 1 10 w
 rw [in_len,decide_eq_false (by omega)] at RI
 obtain ⟨S,HS⟩:=nm ((⟨([]:List UInt8).toArray⟩:ByteArray))
 have hS0:S.size=0:=by rw [← HS.out]; rfl
 rw [HS.out]
 go_enter Tryz.func62,Tryz.ntmps62
 go_wp2
 refine wp_loop_rounds 1 ?_
 rw [rounds_succ]
 go_wp2_with (go_at_call 64; refine RI.mono ?_; rintro e w1 ⟨rfl,hw1⟩; replace hw1:=hw1.symm; subst hw1)
 go_ret2
 exact ⟨.inr ⟨HE.out,_,rfl⟩,br⟩
theorem digits_calls (x:List UInt8) (hx:x.length<=1048576) (w:World) (hL:LD w) :
  Calls Tryz.prog 62 #[.string ⟨x.toArray⟩] w fun e w'=>DigR x e/\Below w.heap.size w w':=by
 cases x with
 | nil=>exact digits_nil w
 | cons c r =>
   by_cases h:c=45
   ·exact digits_neg (c :: r) hx w hL r (by rw [h])
   ·exact digits_pos (c :: r) hx w hL h (by simp)
def WhsR (ws:List (List UInt8)) (n:Nat) (w:World) (e:Ending) (w':World):Prop :=
 (∃ z a c,numsO ws=some z/\e=.returned (.tuple #[.slice a n c,.bool true])/\Lst w' a n c z/\∀ g o,a=some ⟨g,o,none⟩->w.heap.size<=g/\TyI w' g)\/(numsO ws=none/\e=.returned (.tuple #[.slice none 0 0,.bool false]))
theorem OwnX.tyI {base:Nat} {w:World} {v:Value} {vs:List Value} (h:OwnX 3 base w v vs) {a:Option Addr} {n c:Nat} (e:v=.slice a n c):∀ g o,a=some ⟨g,o,none⟩->base<=g/\TyI w g:=fun g o ha=>by
 subst ha
 rcases h.2 with ⟨h0,_⟩ | ⟨g',cap,cur,hv,hg,hh,_⟩
 ·rw [h0] at e; cases e
 ·rw [hv] at e
  injection e with e1
  simp only [Option.some.injEq,Addr.mk.injEq] at e1
  obtain ⟨rfl,_⟩:=e1
  exact ⟨hg,_,_,hh⟩
theorem rangeV_snoc (f:Nat->Int) (k:Nat):((List.range (k+1)).map f).map (Value.int .i64)=((List.range k).map f).map (Value.int .i64) ++ [.int .i64 (f k)]:=by rw [List.range_succ,List.map_append,List.map_append]; rfl
theorem ZaD (a:Option Addr) (n c:Nat) (ws:List (List UInt8)) (w:World) (hl:LstS w a n c ws) (hn:n<=70000) (hw:∀ i,(ws.getD i []).length<=70000) (hL:LD w) :
  Calls Tryz.prog 40 #[.slice a n c] w fun e w'=>WhsR ws n w e w'/\Below w.heap.size w w':=by
 have HN:Hid (ws.length=n):=hl.len
 have HW:Hid (∀ i,(ws.getD i []).length<=70000):=hw
 clear hw
 go_enter Tryz.func40,Tryz.ntmps40
 go_wp2
 go_loopw [4,5] (fun v i wr=>∃ k:Nat,k<=n/\i=.int .i64 k/\Hid (∀ j,j < k->(numO (ws.getD j [])).isSome=true)/\OwnX 3 w.heap.size wr v (((List.range k).map (zv ws)).map (Value.int .i64))/\Below w.heap.size w wr) (fun _ i _=>n - (intOf i).toNat)
 case atStart=>exact ⟨0,Nat.zero_le _,rfl,fun j hj=>by omega,OwnX.nil _ _ _,br⟩
 case round =>
  obtain ⟨k,hk,rfl,HG,hO,hB⟩:=hrel
  by_cases hlt:k < n
  ·obtain ⟨b1,o1,rfl,g1,c1⟩:=hl.at1b hB nr hlt
   have hx:=HW.out k
   have LR:=hL.below hB nr
   have HU:=Lib.hid (digits_calls (ws.getD k []) (by omega) wr LR)
   obtain ⟨X,HX⟩:=nm ((⟨(ws.getD k []).toArray⟩:ByteArray))
   rw [HX.out] at c1 HU
   clear hx
   go_wp2_with fail
   refine HU.out.mono ?_
   rintro e w2 ⟨hu,hw2⟩
   have hB2:=hB.trans (hw2.mono hB.size)
   have hO2:=hO.below hw2
   rcases hu with ⟨v2,hv,rfl⟩ | ⟨hv,z2,rfl⟩
   ·have HZ:Hid (zv ws k=v2):=by show _=_; unfold zv; rw [hv]; rfl
    have HG2:Hid (∀ j,j < k+1->(numO (ws.getD j [])).isSome=true):=fun j hj=>by
     by_cases e:j=k
     ·subst e; rw [hv]; rfl
     ·exact HG.out j (by omega)
    have HRS:=Lib.hid (rangeV_snoc (zv ws) k)
    rw [HZ.out] at HRS
    have hfl:(((List.range k).map (zv ws)).map (Value.int .i64)).length=k:=by simp
    obtain ⟨F,HF⟩:=nm (((List.range k).map (zv ws)).map (Value.int .i64))
    rw [HF.out] at hO2 HRS hfl
    have hle:=hB2.size
    clear hv hO
    go_wp2_with (at_builtin; refine ZaJ (T:=3) Tryz.underlying66 infoIntX rfl (by decide) (by rfl) _ _ (by rfl) w.heap.size _ F (.int .i64 v2) w2.heap.size w (by rfl) (by rfl) (by exact hO2.below (Zac _ _)) (by exact Zaf _ _ _) (by rfl) (by rw [hfl]; omega) (by simp; omega) (by exact hB2.alloc hle _) ?_; intro v3 w3 hO3 hB3 _ _)
    go_roundw
    case rel=>exact ⟨k+1,by omega,by go_num,HG2,by rw [HRS.out]; exact hO3,hB3⟩
    case measure=>simp [intOf]; omega
   ·have HE:Hid (numsO ws=none):=numsO_none ws k (by rw [HN.out]; exact hlt) hv
    clear hv
    go_wp2_with fail
    go_ret2
    exact ⟨.inr ⟨HE.out,rfl⟩,hB2⟩
  ·obtain rfl:k=n:=by omega
   have HE:Hid (numsO ws=some ((List.range k).map (zv ws))):=by
    have:=numsO_all ws (fun i hi=>HG.out i (by rw [HN.out] at hi; exact hi))
    rw [HN.out] at this
    exact this
   obtain ⟨a2,c2,e2,l2⟩:=hO.ints
   have ty:=Lib.hid (hO.tyI e2)
   rw [show ((List.range k).map (zv ws)).length=k by simp] at e2 l2
   subst e2
   go_wp2_with fail
   go_ret2
   exact ⟨.inl ⟨_,_,_,HE.out,rfl,l2,ty.out⟩,hB⟩
end Go.Proofs.YthmiojmlaclgaaaGreatDoor.Fx
