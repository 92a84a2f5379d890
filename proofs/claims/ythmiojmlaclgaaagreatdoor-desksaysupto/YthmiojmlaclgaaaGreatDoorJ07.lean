/- What the law stands on: VecS OptB OptC. -/
import Derived.Test.YthmiojmlaclgaaaGreatDoorJ00
import Derived.Test.YthmiojmlaclgaaaGreatDoorJ01
import Derived.Test.YthmiojmlaclgaaaGreatDoorJ06
set_option maxRecDepth 100000
set_option maxHeartbeats 12800000
namespace Go.Proofs.YthmiojmlaclgaaaGreatDoor.Fx
open Go.RowKit
def sumG (xs ys:List Int) (i:Nat):Int:=addI (xs.getD i 0) (ys.getD i 0)
def oneI (la:Nat):Int:=if 200 < la then 2 else 0
def timesG (xs:List Int) (n:Int) (i:Nat):Int:=mulI (xs.getD i 0) n
def timesL (xs:List Int) (n:Int) (la:Nat):List Int:=if 200 < la then [] else (List.range la).map (timesG xs n)
theorem vTimes_calls (a:Option Addr) (la ca:Nat) (xs:List Int) (m:Int) (w:World) (ha:Lst w a la ca xs) :
  Calls Tryz.prog 186 #[.slice a la ca,.int .i64 m] w fun e w'=>∃ a' n,e=.returned (.tuple #[.slice a' n n,.int .i64 (oneI la)])/\n<=200/\Lst w' a' n n (timesL xs m la)/\Below w.heap.size w w':=by
 unfold timesL oneI
 have hal:=(Below.refl w.heap.size w).alloc nr (.cells #[.slice a la ca] 66)
 by_cases hl:200 < la
 ·rw [if_pos hl,if_pos hl]
  have hd:decide (200 < la)=true:=decide_eq_true hl
  clear ha
  go_enter Tryz.func186,Tryz.ntmps186
  go_wp2_with (go_at_call 199; refine (long1 _ _ _ _ _ rfl).mono ?_; rintro e w' ⟨rfl,rfl⟩; rw [hd])
  go_ret2
  exact ⟨_,_,rfl,Nat.zero_le _,Lst.nil _ _ _,hal⟩
 ·rw [if_neg hl,if_neg hl]
  have hd:decide (200 < la)=false:=decide_eq_false hl
  have hmk:=run_make_row' (P:=Tryz.prog) 66 3 (.int .i64 0) 8 Tryz.underlying66 info3 rfl .i64 .i64 la (by omega) (by omega)
  go_enter Tryz.func186,Tryz.ntmps186
  go_wp2_with (go_at_call 199; refine (long1 _ _ _ _ _ rfl).mono ?_; rintro e w' ⟨rfl,rfl⟩; rw [hd])
  go_loopw [16] (fun i wr=>∃ k:Nat,k<=la/\i=.int .i64 k/\wr.rowIs (w.heap.size+1) 3 la (rowTo (timesG xs m) k)/\Below w.heap.size w wr) (fun i _=>la - (intOf i).toNat)
  case atStart=>exact ⟨0,Nat.zero_le _,rfl,ZaG (by have h:=World.rowIs_made (w.alloc (.cells #[.slice a la ca] 66)) (.int .i64 0) la 3; simpa using h),hal.alloc hal.size _⟩
  case round =>
   obtain ⟨k,hk,rfl,hrow,hbel⟩:=hrel
   have ha':=ha.below hbel nr
   clear ha hal hmk
   by_cases hlt:k < la
   ·obtain ⟨b1,o1,x,rfl,_,c1,HX⟩:=ha'.at1 hlt
    have c3:=Zax hrow hlt
    have f3:=hrow.frozen k
    go_wp2_with (go_at_call 190; refine (ZbP _ _ _).mono ?_; rintro e w' ⟨rfl,nd,rfl⟩)
    go_roundw
    case rel =>
     have st:=Zaw (g:=timesG xs m) hrow
     simp only [timesG,HX.out] at st
     exact ⟨k+1,by omega,by go_num,Zap st _,Zab (hbel.setCell (by simp) _) _⟩
    case measure=>simp [intOf]; omega
   ·go_wp2
    go_ret2
    obtain rfl:k=la:=by omega
    exact ⟨_,_,rfl,by omega,Zbe hrow,hbel⟩
def clampL (xs:List Int) (la:Nat):List Int:=(List.range la).map (clampG xs)
theorem clampL_get {xs:List Int} {la i:Nat} (hi:i < la):(clampL xs la).getD i 0=clampG xs i:=by
 unfold clampL
 simp [hi]
theorem ZbZ (a:Option Addr) (la ca:Nat) (xs:List Int) (w:World) (ha:Lst w a la ca xs) (hl:la<=200) :
  Calls Tryz.prog 183 #[.slice a la ca] w fun e w'=>∃ a',e=.returned (.slice a' la la)/\Lst w' a' la la (clampL xs la)/\Below w.heap.size w w':=by
 have hmk:=run_make_row' (P:=Tryz.prog) 66 3 (.int .i64 0) 8 Tryz.underlying66 info3 rfl .i64 .i64 la (by omega) (by omega)
 go_enter Tryz.func183,Tryz.ntmps183
 go_wp2
 go_loopw [11] (fun i wr=>∃ k:Nat,k<=la/\i=.int .i64 k/\wr.rowIs w.heap.size 3 la (rowTo (clampG xs) k)/\Below w.heap.size w wr) (fun i _=>la - (intOf i).toNat)
 case atStart=>exact ⟨0,Nat.zero_le _,rfl,ZaG (World.rowIs_made _ _ _ _),br.alloc nr _⟩
 case round =>
  obtain ⟨k,hk,rfl,hrow,hbel⟩:=hrel
  have ha':=ha.below hbel nr
  clear ha hmk
  by_cases hlt:k < la
  ·obtain ⟨b1,o1,x,rfl,_,c1,HX⟩:=ha'.at1 hlt
   have c3:=Zax hrow hlt
   have f3:=hrow.frozen k
   go_wp2_with (go_at_call 137; refine (ZaR _ _).mono ?_; rintro e w' ⟨rfl,hw'⟩; replace hw':=hw'.symm; subst hw')
   go_roundw
   case rel =>
    have st:=Zaw (g:=clampG xs) hrow
    simp only [clampG,HX.out] at st
    exact ⟨k+1,by omega,by go_num,st,hbel.setCell nr _⟩
   case measure=>simp [intOf]; omega
  ·obtain rfl:k=la:=by omega
   go_wp2
   go_ret
   exact ⟨_,rfl,Zbe hrow,hbel⟩
theorem top_step {t n:Int} (h0:0<=t):(if (if t < n then n else t) < -n then -n else (if t < n then n else t))=if t < absI n then absI n else t:=by
 unfold absI
 (repeat' split) <;> omega
theorem greatest_calls (a:Option Addr) (la ca:Nat) (xs:List Int) (g:Nat->Int) (w:World) (ha:Lst w a la ca xs) (hl:la<=200) (hg:∀ i,i < la->xs.getD i 0=g i) (hb:∀ i,i < la->-2147483647<=g i/\g i<=2147483647) :
  Calls Tryz.prog 184 #[.slice a la ca] w fun e w'=>e=.returned (.int .i64 (topTo g la))/\w'=w:=by
 have HG:Hid (∀ i,i < la->xs.getD i 0=g i):=hg
 have HB:Hid (∀ i,i < la->-2147483647<=g i/\g i<=2147483647):=hb
 clear hg hb
 go_enter Tryz.func184,Tryz.ntmps184
 go_wp2
 go_loopw [3,8] (fun t i wr=>∃ k:Nat,k<=la/\i=.int .i64 k/\t=.int .i64 (topTo g k)/\wr=w) (fun _ i _=>la - (intOf i).toNat)
 case atStart=>exact ⟨0,Nat.zero_le _,rfl,rfl,rfl⟩
 case round =>
  obtain ⟨k,hk,rfl,rfl,hw⟩:=hrel
  replace hw:=hw.symm
  subst hw
  by_cases hlt:k < la
  ·obtain ⟨b1,o1,x,rfl,_,c1,HX⟩:=ha.at1 hlt
   have hx:g k=x:=by rw [← HG.out k hlt]; exact HX.out
   have hbx:=HB.out k hlt
   rw [hx] at hbx
   have htb:=topTo_bd (g:=g) (n:=k) (fun i hi=>HB.out i (by omega))
   obtain ⟨t,ht⟩:∃ t,topTo g k=t:=⟨_,rfl⟩
   have HN:Hid (topTo g (k+1)=if t < absI x then absI x else t):=by
    show topTo g (k+1)=_
    rw [← ht,← hx]
    rfl
   rw [ht] at htb ⊢
   obtain ⟨u,hu⟩:∃ u,(if x > t then x else t)=u:=⟨_,rfl⟩
   obtain ⟨v,hv⟩:∃ v,(if -x > u then -x else u)=v:=⟨_,rfl⟩
   have hub:0<=u/\u<=2147483647:=by rw [← hu]; split <;> omega
   have HV:Hid (topTo g (k+1)=v):=by
    show _=_
    rw [HN.out,← top_step htb.1]; exact (show (if -x > (if x > t then x else t) then -x else (if x > t then x else t))=v by rw [hu,hv])
   have hm:∀ wz,(Builtin.max_ #[3,3,3] 3 #[.int .i64 t,.int .i64 x,.int .i64 (-x)]).run Tryz.prog wz=.ok (.int .i64 v) wz:=fun wz=>by
    simp only [Builtin.max_]
    rw [← hv,← hu]
    rfl
   clear ht hx hu hv
   go_wp2
   go_roundw
   case rel=>exact ⟨k+1,by omega,by go_num,by rw [HV.out],by trivial⟩
   case measure=>simp [intOf]; omega
  ·obtain rfl:k=la:=by omega
   go_wp2
   go_ret
   exact ⟨rfl,rfl⟩
theorem clipL_small {xs:List Int} {most:Int} {la:Nat} (hE:clipE la most=0) (h:¬ (most ≠ 0/\most < topL xs la)):clipL xs most la=clampL xs la:=by
 unfold clipL clampL
 rw [if_pos hE]
 refine List.map_congr_left (fun i _=>?_)
 unfold clipG clampG
 rw [if_neg h]
theorem clipL_great {xs:List Int} {most:Int} {la:Nat} (hE:clipE la most=0) (hl:la<=200) (h:most ≠ 0/\most < topL xs la):timesL (clampL xs la) (divI most (topL xs la)) la=clipL xs most la:=by
 unfold clipL timesL
 rw [if_pos hE,if_neg (by omega)]
 refine List.map_congr_left (fun i hi=>?_)
 unfold timesG clipG
 rw [if_pos h,clampL_get (List.mem_range.1 hi)]
 unfold clampG
 rw [mulI_clamp]
theorem clip_calls (a:Option Addr) (la ca:Nat) (xs:List Int) (most:Int) (w:World) (ha:Lst w a la ca xs) :
  Calls Tryz.prog 133 #[.slice a la ca,.int .i64 most] w fun e w'=>∃ a' n,e=.returned (.tuple #[.slice a' n n,.int .i64 (clipE la most)])/\n<=200/\Lst w' a' n n (clipL xs most la)/\Below w.heap.size w w':=by
 by_cases hl:200 < la
 ·have hE:clipE la most=2:=by unfold clipE; rw [if_pos hl]
  have hX:clipL xs most la=[]:=by unfold clipL; rw [hE]; rfl
  rw [hE,hX]
  clear hE hX ha
  have hl':(200:Int) < (la:Int):=by omega
  go_enter Tryz.func133,Tryz.ntmps133
  go_wp2
  go_ret2
  exact ⟨none,0,rfl,by omega,Lst.nil _ _ _,br⟩
 ·have hl':¬ (200:Int) < (la:Int):=by omega
  cases hm:inB most 0 2147483647 with
  | false =>
    have hE:clipE la most=1:=by unfold clipE; rw [if_neg hl,hm]; rfl
    have hX:clipL xs most la=[]:=by unfold clipL; rw [hE]; rfl
    rw [hE,hX]
    have HM:Hid (inB most 0 2147483647=false):=hm
    clear hE hX ha hm
    go_enter Tryz.func133,Tryz.ntmps133
    go_wp2_with (go_at_call 89; refine (ZaI _ _ _ _).mono ?_; rintro e w' ⟨rfl,hw'⟩; replace hw':=hw'.symm; subst hw'; rw [HM.out])
    go_ret2
    exact ⟨none,0,rfl,by omega,Lst.nil _ _ _,br⟩
  | true =>
    have hE:clipE la most=0:=by unfold clipE; rw [if_neg hl,hm]; rfl
    have HM:Hid (inB most 0 2147483647=true):=hm
    have hmb:=in_is hm
    have htb:=topL_bd xs la
    have SM:=clipL_small (xs:=xs) hE
    have GR:=clipL_great (xs:=xs) hE (by omega)
    have HGT:Hid (∀ (a':Option Addr) (q:World),Lst q a' la la (clampL xs la)->Calls Tryz.prog 184 #[.slice a' la la] q fun e w'=>e=.returned (.int .i64 (topL xs la))/\w'=q) :=
     fun a' q hq=>greatest_calls a' la la _ (clampG xs) q hq (by omega) (fun i hi=>clampL_get hi) (fun i _=>clampG_bd xs i)
    rw [hE]
    generalize topL xs la=t at *
    by_cases h:most ≠ 0/\most < t
    ·have GR:=GR h
     have b1:(most == 0)=false:=by simpa using h.1
     have h2:=h.2
     rw [← GR]
     clear hE hm SM h GR
     go_enter Tryz.func133,Tryz.ntmps133
     go_wp2_with (go_at_call 89; refine (ZaI _ _ _ _).mono ?_; rintro e w' ⟨rfl,hw'⟩; replace hw':=hw'.symm; subst hw'; rw [HM.out])
     refine (ZbZ _ _ _ _ _ ha (by omega)).mono ?_
     rintro e w1 ⟨a1,rfl,h1,hw1⟩
     go_wp2_with (first | (go_at_call 184; refine (HGT.out _ _ h1).mono ?_; rintro e w' ⟨rfl,hw'⟩; replace hw':=hw'.symm; subst hw') | (go_at_call 185; refine (div_calls _ _ _ (by omega)).mono ?_; rintro e w' ⟨rfl,k1,hw'⟩; subst hw') | (go_at_call 186; refine (vTimes_calls _ _ _ _ _ _ (h1.drewN _)).mono ?_; rintro e w2 ⟨a2,n2,rfl,hn2,h2,hw2⟩; rw [show oneI la=0 from if_neg (by omega)]))
     go_ret2
     exact ⟨_,_,rfl,hn2,h2,hw1.trans ((Zab br _).trans (hw2.mono (by simpa using hw1.size)))⟩
    ·have SM:=SM h
     rw [SM]
     have HH:Hid (¬ (most ≠ 0/\most < t)):=h
     clear hE hm SM GR h
     by_cases h0:most=0
     ·have b1:(most == 0)=true:=by simpa using h0
      clear h0
      go_enter Tryz.func133,Tryz.ntmps133
      go_wp2_with (go_at_call 89; refine (ZaI _ _ _ _).mono ?_; rintro e w' ⟨rfl,hw'⟩; replace hw':=hw'.symm; subst hw'; rw [HM.out])
      refine (ZbZ _ _ _ _ _ ha (by omega)).mono ?_
      rintro e w1 ⟨a1,rfl,h1,hw1⟩
      go_wp2_with (go_at_call 184; refine (HGT.out _ _ h1).mono ?_; rintro e w' ⟨rfl,hw'⟩; replace hw':=hw'.symm; subst hw')
      go_ret2
      exact ⟨_,_,rfl,by omega,h1,hw1⟩
     ·have b1:(most == 0)=false:=by simpa using h0
      have b2:t<=most:=by
       have:=HH.out
       omega
      clear h0
      go_enter Tryz.func133,Tryz.ntmps133
      go_wp2_with (go_at_call 89; refine (ZaI _ _ _ _).mono ?_; rintro e w' ⟨rfl,hw'⟩; replace hw':=hw'.symm; subst hw'; rw [HM.out])
      refine (ZbZ _ _ _ _ _ ha (by omega)).mono ?_
      rintro e w1 ⟨a1,rfl,h1,hw1⟩
      go_wp2_with (go_at_call 184; refine (HGT.out _ _ h1).mono ?_; rintro e w' ⟨rfl,hw'⟩; replace hw':=hw'.symm; subst hw')
      go_ret2
      exact ⟨_,_,rfl,by omega,h1,hw1⟩
def movedG (ws ms:List Int) (rate:Int) (i:Nat):Int:=subI (ws.getD i 0) (mulI rate (ms.getD i 0))
def momG (keep:Int) (ms gs:List Int) (i:Nat):Int:=addI (mulI keep (ms.getD i 0)) (gs.getD i 0)
theorem moved_own (a b:Option Addr) (la ca cb:Nat) (xs ys:List Int) (rate:Int) (w:World) (ha:Lst w a la ca xs) (hb:Lst w b la cb ys) (hl:la<=200) :
  Calls Tryz.prog 192 #[.slice a la ca,.slice b la cb,.int .i64 rate] w fun e w'=>e=.returned (.slice (some ⟨w.heap.size,0,none⟩) la la)/\Arr w' w.heap.size la la (movedG xs ys rate)/\Below w.heap.size w w':=by
 have hmk:=run_make_row' (P:=Tryz.prog) 66 3 (.int .i64 0) 8 Tryz.underlying66 info3 rfl .i64 .i64 la (by omega) (by omega)
 go_enter Tryz.func192,Tryz.ntmps192
 go_wp2
 go_loopw [14] (fun i wr=>∃ k:Nat,k<=la/\i=.int .i64 k/\wr.rowIs w.heap.size 3 la (rowTo (movedG xs ys rate) k)/\Below w.heap.size w wr) (fun i _=>la - (intOf i).toNat)
 case atStart=>exact ⟨0,Nat.zero_le _,rfl,ZaG (World.rowIs_made _ _ _ _),br.alloc nr _⟩
 case round =>
  obtain ⟨k,hk,rfl,hrow,hbel⟩:=hrel
  have ha':=ha.below hbel nr
  have hb':=hb.below hbel nr
  clear ha hb hmk
  by_cases hlt:k < la
  ·obtain ⟨b1,o1,x,rfl,_,c1,HX⟩:=ha'.at1 hlt
   obtain ⟨b2,o2,y,rfl,_,c2,HY⟩:=hb'.at1 hlt
   have c3:=Zax hrow hlt
   have f3:=hrow.frozen k
   go_wp2
   go_region_with ((first | (go_at_call 190; refine (ZbP _ _ _).mono ?_; rintro e w' ⟨rfl,nd,rfl⟩) | (go_at_call 140; refine (sub_calls _ _ _).mono ?_; rintro e w' ⟨rfl,hw'⟩; replace hw':=hw'.symm; subst hw')))
   all_goals go_wp2
   all_goals
    go_roundw
    case rel =>
     have st:=Zaw (g:=movedG xs ys rate) hrow
     simp only [movedG,HX.out,HY.out] at st
     exact ⟨k+1,by omega,by go_num,Zap st _,Zab (hbel.setCell nr _) _⟩
    case measure=>simp [intOf]; omega
  ·obtain rfl:k=la:=by omega
   go_wp2
   go_ret
   exact ⟨rfl,Arr.row hrow,hbel⟩
theorem momentum_own (keep:Int) (a b:Option Addr) (la ca cb:Nat) (xs ys:List Int) (w:World) (ha:Lst w a la ca xs) (hb:Lst w b la cb ys) (hl:la<=200) :
  Calls Tryz.prog 194 #[.int .i64 keep,.slice a la ca,.slice b la cb] w fun e w'=>e=.returned (.slice (some ⟨w.heap.size,0,none⟩) la la)/\Arr w' w.heap.size la la (momG keep xs ys)/\Below w.heap.size w w':=by
 have hmk:=run_make_row' (P:=Tryz.prog) 66 3 (.int .i64 0) 8 Tryz.underlying66 info3 rfl .i64 .i64 la (by omega) (by omega)
 go_enter Tryz.func194,Tryz.ntmps194
 go_wp2
 go_loopw [14] (fun i wr=>∃ k:Nat,k<=la/\i=.int .i64 k/\wr.rowIs w.heap.size 3 la (rowTo (momG keep xs ys) k)/\Below w.heap.size w wr) (fun i _=>la - (intOf i).toNat)
 case atStart=>exact ⟨0,Nat.zero_le _,rfl,ZaG (World.rowIs_made _ _ _ _),br.alloc nr _⟩
 case round =>
  obtain ⟨k,hk,rfl,hrow,hbel⟩:=hrel
  have ha':=ha.below hbel nr
  have hb':=hb.below hbel nr
  clear ha hb hmk
  by_cases hlt:k < la
  ·obtain ⟨b1,o1,x,rfl,_,c1,HX⟩:=ha'.at1 hlt
   obtain ⟨b2,o2,y,rfl,_,c2,HY⟩:=hb'.at1 hlt
   have c3:=Zax hrow hlt
   have f3:=hrow.frozen k
   go_wp2
   go_region_with ((first | (go_at_call 190; refine (ZbP _ _ _).mono ?_; rintro e w' ⟨rfl,nd,rfl⟩) | (go_at_call 200; refine (add_calls _ _ _).mono ?_; rintro e w' ⟨rfl,hw'⟩; replace hw':=hw'.symm; subst hw')))
   all_goals go_wp2
   all_goals
    go_roundw
    case rel =>
     have st:=Zaw (g:=momG keep xs ys) hrow
     simp only [momG,HX.out,HY.out] at st
     exact ⟨k+1,by omega,by go_num,Zap st _,Zab (hbel.setCell nr _) _⟩
    case measure=>simp [intOf]; omega
  ·obtain rfl:k=la:=by omega
   go_wp2
   go_ret
   exact ⟨rfl,Arr.row hrow,hbel⟩
end Go.Proofs.YthmiojmlaclgaaaGreatDoor.Fx
