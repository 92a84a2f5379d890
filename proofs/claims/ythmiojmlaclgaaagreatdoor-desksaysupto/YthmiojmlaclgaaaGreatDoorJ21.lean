/- What the law stands on: StE StR StF StG StK StK2 Opens StO. -/
import Derived.Test.YthmiojmlaclgaaaGreatDoorJ00
import Derived.Test.YthmiojmlaclgaaaGreatDoorJ17
import Derived.Test.YthmiojmlaclgaaaGreatDoorJ12
import Derived.BigQuiet
import Derived.Test.YthmiojmlaclgaaaGreatDoorRows
import Derived.ProofKit
import Derived.OpenShut
import Derived.ShutString
import Derived.ChangeOld
import Derived.Below
import Derived.SizedLaws
import Derived.Lib.SmallJoins
import Derived.Test.YthmiojmlaclgaaaGreatDoorJ05
import Derived.Deep.DeepHandedRow
import Derived.Lib.LaidTab
import Derived.Stop.LaidErr
import Derived.LaidMore
import Derived.Lay
import Derived.SevenTiedAt
import Derived.Stop.Joined
set_option maxRecDepth 100000
set_option maxHeartbeats 12800000
namespace Go.Proofs.YthmiojmlaclgaaaGreatDoor.Fx
open Go.RowKit
theorem glue_length (b:UInt8):∀ (ws:List (List UInt8)) (p:List UInt8),ws.length<=(glue b ws p).length/\p.length<=(glue b ws p).length/\∀ w ∈ ws,w.length<=(glue b ws p).length
 | [],p=>by simp [glue]
 | w :: ws, p => by
   have ih:=glue_length b ws p
   have e:glue b (w :: ws) p=w ++ (b :: glue b ws p):=by simp [glue]
   rw [e]
   simp only [List.length_append,List.length_cons]
   refine ⟨by omega,by omega,fun x hx=>?_⟩
   rcases List.mem_cons.1 hx with rfl | hx
   ·omega
   ·have:=ih.2.2 x hx; omega
theorem ZaH (b:UInt8) (l:List UInt8):(wordsOf b l).length<=l.length+1/\∀ i,((wordsOf b l).getD i []).length<=l.length:=by
 have h:=glue_length b (ps b l).1 (ps b l).2
 rw [ps_glue] at h
 refine ⟨by unfold wordsOf; simp; omega,fun i=>?_⟩
 by_cases hi:i < (wordsOf b l).length
 ·have hm:(wordsOf b l).getD i [] ∈ wordsOf b l:=by
   rw [List.getD_eq_getElem?_getD,List.getElem?_eq_getElem hi,Option.getD_some]; exact List.getElem_mem hi
  generalize (wordsOf b l).getD i []=x at hm
  unfold wordsOf at hm
  rcases List.mem_append.1 hm with h1 | h1
  ·exact h.2.2 x h1
  ·rw [List.mem_singleton] at h1; rw [h1]; exact h.2.1
 ·rw [List.getD_eq_getElem?_getD,List.getElem?_eq_none (by omega)]; simp
theorem ZcM {l:Ln} {i:Nat} (hi:i < l.nums.length):l.words.getD i []=dg (l.nums.getD i 0):=by
 rw [List.getD_eq_getElem?_getD,Ln.words,List.getElem?_map,List.getElem?_eq_getElem hi,List.getD_eq_getElem?_getD,List.getElem?_eq_getElem hi]
 rfl
theorem Ln.ok.at {l:Ln} (h:l.ok) {i:Nat} (hi:i < l.nums.length):0<=l.nums.getD i 0/\l.nums.getD i 0 < 2305843009213693951:=h.nums _ (getD_mem hi)
theorem wok_line {l:Ln} (h:l.ok) {i:Nat} (hi:i < l.nums.length):Lib.parseUintB 64 (l.words.getD i [])=.ok (l.nums.getD i 0).toNat:=by
 have:=h.at hi
 rw [ZcM hi]
 exact ZcL _ (by omega)
theorem pv_line {l:Ln} (h:l.ok) {i:Nat} (hi:i < l.nums.length):pv l.words i=l.nums.getD i 0:=by
 have:=h.at hi
 rw [pv_of (wok_line h hi)]
 omega
theorem wrapN {z:Int} (h:0<=z/\z < 2305843009213693951):IntKind.i64.wrap z=z:=ZaK z (by omega) (by omega)
theorem read_line {l:Ln} (h:l.ok):readLn l.words=l:=by
 have hn:l.nums.length=l.b.length+4:=by simp [Ln.nums]
 have a0:=pv_line h (i:=0) (by omega)
 have a1:=pv_line h (i:=1) (by omega)
 have a2:=pv_line h (i:=2) (by omega)
 have a3:=pv_line h (i:=3) (by omega)
 have w0:=wrapN (h.at (i:=0) (by omega))
 have w1:=wrapN (h.at (i:=1) (by omega))
 obtain ⟨s,r,root,chain,b⟩:=l
 simp only [readLn,a0,a1,a2,a3,w0,w1]
 simp only [Ln.mk.injEq]
 refine ⟨rfl,rfl,rfl,rfl,?_⟩
 apply List.ext_getElem
 ·simp [Ln.words_len]
 ·intro i h1 h2
  simp only [List.getElem_map,List.getElem_range]
  rw [pv_line h (by rw [hn]; dsimp only; omega),wrapN (h.at (by rw [hn]; dsimp only; omega))]
  rw [List.getD_eq_getElem?_getD,Nat.add_comm]
  simp [Ln.nums,h2]
theorem no_line {s:List UInt8} {k:Nat} (hk:78<=k\/s.length<=k) (h:(10:UInt8) ∉ s.take k) (l:Ln):¬ IsLine s l:=by
 intro hl
 have hp:l.text <+: s.take k:=by
  rcases hk with hk | hk
  ·exact hl.take hk
  ·rw [List.take_of_length_le hk]; exact hl.2
 exact h (hp.subset (by simp [Ln.text]))
theorem str_eq {a b:ByteArray} (h:a=b):(a.toList == b.toList)=true:=by subst h; simp
theorem str_ne {a b:ByteArray} (h:¬ a=b):(a.toList == b.toList)=false:=by
 rw [beq_eq_false_iff_ne]
 intro e
 rw [ByteArray.toList_eq,ByteArray.toList_eq] at e
 exact h (Go.WideShapes.bytes_inj e)
def ParseR (s:List UInt8) (w:World) (e:Ending) (w':World):Prop :=
 (∃ (l:Ln) (x:Rcm),IsLine s l/\x.ln l.b=l/\Lst w' x.a x.n x.k l.b/\(∀ bb oo,x.a=some ⟨bb,oo,none⟩->w.heap.size<=bb)/\e=.returned (.tuple #[x.val,.int .i64 l.text.length,.int .i64 0]))\/((∀ l,¬ IsLine s l)/\e=.returned (.tuple #[zeroR.val,.int .i64 0,.int .i64 5]))
theorem take_arr (s:List UInt8) (k:Nat):(⟨s.toArray⟩:ByteArray).extract 0 k=⟨(s.take k).toArray⟩:=by
 apply ByteArray.ext
 apply Array.toList_inj.1
 rw [Lib.extract_from_zero]
theorem parse_calls (s:List UInt8) (w:World) (hs:s.length<=9223372036854775807) (hL:LD w) :
  Calls Tryz.prog 123 #[.string ⟨s.toArray⟩] w fun e w'=>ParseR s w e w'/\Below w.heap.size w w':=by
 obtain ⟨M,HM⟩:=nm ((min (s.length:Int) 78).toNat)
 have hM:78<=M\/s.length<=M:=by have:=HM.out; omega
 have hM2:M<=78:=by have:=HM.out; omega
 obtain ⟨T,HT⟩:=nm (s.take M)
 have hTl:T.length<=78:=by rw [← HT.out,List.length_take]; omega
 have HX:Hid ((⟨s.toArray⟩:ByteArray).extract 0 (min (s.length:Int) 78).toNat=⟨T.toArray⟩):=by show _=_; rw [HM.out,take_arr,HT.out]
 have hal:=(Below.refl w.heap.size w).alloc nr (.cells #[.int .i64 0,.slice none 0 0,.int .i64 0,.int .u64 0,.int .u64 0] 111)
 have R0:=Zao w (.int .i64 0) (.slice none 0 0) (.int .i64 0) (.int .u64 0) (.int .u64 0) 111
 obtain ⟨W,HW⟩:=nm (w.alloc (.cells #[.int .i64 0,.slice none 0 0,.int .i64 0,.int .u64 0,.int .u64 0] 111))
 rw [HW.out] at hal R0
 have LW:=hL.below hal nr
 obtain ⟨S,HS⟩:=nm ((⟨s.toArray⟩:ByteArray))
 have hSs:S.size=s.length:=by rw [← HS.out]; rfl
 have HX2:Hid (S.extract 0 (min (s.length:Int) 78).toNat=⟨T.toArray⟩):=by show _=_; rw [← HS.out]; exact HX.out
 clear HX hL
 by_cases hin:(10:UInt8) ∈ T
 rotate_left
 ·have HC:=Lib.hid (cut_calls T 10 (by omega) W LW)
  rw [cut_not 10 T hin] at HC
  have HE:Hid (∀ l,¬ IsLine s l):=fun l=>no_line hM (by rw [HT.out]; exact hin) l
  rw [HS.out]
  clear hin
  go_enter Tryz.func123,Tryz.ntmps123
  go_wp2_with fail
  rw [HX2.out,HW.out]
  refine HC.out.mono ?_
  rintro e w1 ⟨rfl,hw1⟩
  have R1:=R0.of_block (hw1.block _ R0.lt)
  have T1:=hal.trans (hw1.mono hal.size)
  obtain ⟨d0,d1,d2,d3,d4⟩:=Zah R1
  have f0:=R1.frozen 0
  have f1:=R1.frozen 1
  have f2:=R1.frozen 2
  have f3:=R1.frozen 3
  have f4:=R1.frozen 4
  go_wp2
  have R2:=ZaN R1 (.int .i64 0) (.slice none 0 0) (.int .i64 0) (.int .u64 0) (.int .u64 0)
  obtain ⟨e0,e1,e2,e3,e4⟩:=Zah R2
  exact bodyPost_ret (v:=.tuple #[.agg #[.int .i64 0,.slice none 0 0,.int .i64 0,.int .u64 0,.int .u64 0],.int .i64 0,.int .i64 5]) (by simp [results,Tryz.results123,go_sem,e0,e1,e2,e3,e4]) rfl ⟨.inr ⟨HE.out,rfl⟩,Zan T1 nr _ _ _ _ _⟩
 ·obtain ⟨l,r,hTe,hln⟩:=first_at hin
  have HC:=Lib.hid (cut_calls T 10 (by omega) W LW)
  rw [hTe,cut_at 10 l r hln,← hTe] at HC
  have hll:l.length<=78:=by rw [hTe] at hTl; simp at hTl; omega
  have HP:Hid (l ++ [10] <+: s):=by
   show _ <+: _
   have h1:l ++ [10] <+: T:=⟨r,by rw [hTe]; simp⟩
   rw [← HT.out] at h1
   exact h1.trans (List.take_prefix _ _)
  have HU:Hid (∀ m,IsLine s m->m.line=l):=fun m hm=>line_unique hm hln HP.out
  have HSp:=Lib.hid (fun q (hq:Below W.heap.size W q)=>Zcw l 32 (by omega) q (LW.below hq nr))
  have hws:=ZaH 32 l
  have HWd:Hid (∀ m,IsLine s m->m.words=wordsOf 32 l):=fun m hm=>by rw [← m.wordsOf,HU.out m hm]
  have HRd:Hid (∀ q a n,Below W.heap.size W q->LstS q a n n (wordsOf 32 l)->Calls Tryz.prog 174 #[.slice a n n] q fun e w'=>ReadR (wordsOf 32 l) q e w'/\Below q.heap.size q w'):=fun q a n hq h=>read_calls a n n _ q h (by rw [← h.len]; omega) (fun i _=>Nat.le_trans (hws.2 i) (by omega)) (LW.below hq nr)
  obtain ⟨L,HLb⟩:=nm ((⟨l.toArray⟩:ByteArray))
  have hLs:L.size<=78:=by rw [← HLb.out]; exact hll
  rw [HLb.out] at HC HSp
  rw [HS.out]
  clear hin hTe hln hws
  go_enter Tryz.func123,Tryz.ntmps123
  go_wp2_with fail
  rw [HX2.out,HW.out]
  refine HC.out.mono ?_
  rintro e w1 ⟨rfl,hw1⟩
  go_wp2_with fail
  refine (HSp.out _ hw1).mono ?_
  rintro e w2 ⟨n,a,rfl,LS,hw2⟩
  have T2:=hw1.trans (hw2.mono hw1.size)
  go_wp2_with fail
  refine (HRd.out _ a n T2 LS).mono ?_
  rintro e w3 ⟨hr,hw3⟩
  have T3:=T2.trans (hw3.mono T2.size)
  have hb3:=hal.trans (T3.mono hal.size)
  have R3:=R0.of_block (T3.block _ R0.lt)
  rcases hr with ⟨h4,hok,x,hx,rfl,LB,LBf⟩ | ⟨hbad,rfl⟩
  ·have HG:Hid (∀ m,IsLine s m->readLn (wordsOf 32 l)=m):=fun m hm=>by rw [← HWd.out m hm]; exact read_line hm.1
   have HPr:Hid (∀ q,Below w3.heap.size w3 q->Calls Tryz.prog 80 #[x.val] q fun e w'=>PrintR (readLn (wordsOf 32 l)) e/\Below q.heap.size q w'):=fun q hq=>by
    have hroot:x.root=(readLn (wordsOf 32 l)).root:=by rw [← hx]; rfl
    have hchain:x.chain=(readLn (wordsOf 32 l)).chain:=by rw [← hx]; rfl
    have h:=print_calls x (readLn (wordsOf 32 l)).b q (LB.below hq nr) (by rw [hroot]; exact pv_range.1) (by rw [hchain]; exact pv_range.1) (LW.below (T3.trans (hq.mono T3.size)) nr)
    rw [hx] at h
    exact h
   have HX3:=Lib.hid hx
   generalize readLn (wordsOf 32 l)=m at *
   have HFr:Hid (∀ bb oo,x.a=some ⟨bb,oo,none⟩->w.heap.size < bb):=fun bb oo e=>by
    have h1:=LBf bb oo e
    have h2:=T2.size
    have h3:=R0.lt
    omega
   clear hx h4 hok LBf
   obtain ⟨xs,xa,xn,xk,xr,xroot,xchain⟩:=x
   simp only [Rcm.val,Rcm.cells] at *
   have T4:=T3.alloc T3.size (.cells #[.int .i64 xs,.slice xa xn xk,.int .i64 xr,.int .u64 xroot,.int .u64 xchain] 111)
   have T34:Below w3.heap.size w3 (w3.alloc (.cells #[.int .i64 xs,.slice xa xn xk,.int .i64 xr,.int .u64 xroot,.int .u64 xchain] 111)):=br.alloc nr _
   have BX:=Zao w3 (.int .i64 xs) (.slice xa xn xk) (.int .i64 xr) (.int .u64 xroot) (.int .u64 xchain) 111
   obtain ⟨b0,b1,b2,b3,b4⟩:=Zah BX
   go_wp2_with fail
   refine (HPr.out _ T34).mono ?_
   rintro e w5 ⟨hp,hw5⟩
   have T5:=T4.trans (hw5.mono T4.size)
   have hb5:=hal.trans (T5.mono hal.size)
   have RX:=R0.of_block (T5.block _ R0.lt)
   have B5:=BX.of_block (hw5.block _ BX.lt)
   have LB5:=LB.below (T34.trans (hw5.mono T34.size)) nr
   clear b0 b1 b2 b3 b4
   obtain ⟨b0,b1,b2,b3,b4⟩:=Zah B5
   rcases hp with ⟨hmok,rfl⟩ | ⟨hmok,rfl⟩
   ·obtain ⟨TX,HTX⟩:=nm ((⟨m.text.toArray⟩:ByteArray))
    rw [HTX.out]
    have hcat:¬ 9223372036854775807 < L.size+1:=by omega
    by_cases heq:TX=L ++ ⟨#[10]⟩
    ·have HI:Hid (IsLine s m):=by
      refine ⟨hmok,?_⟩
      have e:m.text=l ++ [10]:=by
       rw [← HTX.out,← HLb.out,Zcc] at heq
       have:=congrArg (fun (x:ByteArray)=>x.data.toList) heq
       exact this
      rw [e]
      exact HP.out
     have hts:TX.size=m.text.length:=by rw [← HTX.out]; rfl
     have hne:=str_eq heq
     clear heq hmok
     obtain ⟨d0,d1,d2,d3,d4⟩:=Zah RX
     have f0:=RX.frozen 0
     have f1:=RX.frozen 1
     have f2:=RX.frozen 2
     have f3:=RX.frozen 3
     have f4:=RX.frozen 4
     go_wp2
     have R2:=ZaN RX (.int .i64 xs) (.slice xa xn xk) (.int .i64 xr) (.int .u64 xroot) (.int .u64 xchain)
     obtain ⟨e0,e1,e2,e3,e4⟩:=Zah R2
     have LB6:Lst (((((w5.setCell ⟨w.heap.size,0,none⟩ (.int .i64 xs)).setCell ⟨w.heap.size,1,none⟩ (.slice xa xn xk)).setCell ⟨w.heap.size,2,none⟩ (.int .i64 xr)).setCell ⟨w.heap.size,3,none⟩ (.int .u64 xroot)).setCell ⟨w.heap.size,4,none⟩ (.int .u64 xchain)) xa xn xk m.b:=by
      obtain ⟨l1,l2,l3⟩:=LB5
      refine ⟨l1,l2,l3.imp id ?_⟩
      rintro ⟨bb,oo,rfl,hs,hc⟩
      refine ⟨bb,oo,rfl,by simpa only [World.size_setCell] using hs,fun i hi=>?_⟩
      have hne:bb ≠ w.heap.size:=by have:=HFr.out bb oo rfl; omega
      have hne2:∀ o,(⟨w.heap.size,o,none⟩:Addr) ≠ ⟨bb,oo+i,none⟩:=fun o e=>by injection e with e; exact hne e.symm
      rw [World.cell?_setCell_other _ _ _ _ (hne2 _),World.cell?_setCell_other _ _ _ _ (hne2 _),World.cell?_setCell_other _ _ _ _ (hne2 _),World.cell?_setCell_other _ _ _ _ (hne2 _),World.cell?_setCell_other _ _ _ _ (hne2 _)]
      exact hc i hi
     exact bodyPost_ret (v:=.tuple #[.agg #[.int .i64 xs,.slice xa xn xk,.int .i64 xr,.int .u64 xroot,.int .u64 xchain],.int .i64 m.text.length,.int .i64 0]) (by simp [results,Tryz.results123,go_sem,e0,e1,e2,e3,e4]) rfl ⟨.inl ⟨m,⟨xs,xa,xn,xk,xr,xroot,xchain⟩,HI.out,HX3.out,LB6,fun bb oo e=>by have:=HFr.out bb oo e; omega,rfl⟩,Zan hb5 nr _ _ _ _ _⟩
    ·have HE:Hid (∀ m,¬ IsLine s m):=fun m' hm=>by
      have e:=HG.out m' hm
      subst e
      refine heq ?_
      rw [← HTX.out,← HLb.out,Zcc,← HU.out m hm]
      rfl
     have hne:=str_ne heq
     clear heq hmok
     obtain ⟨d0,d1,d2,d3,d4⟩:=Zah RX
     have f0:=RX.frozen 0
     have f1:=RX.frozen 1
     have f2:=RX.frozen 2
     have f3:=RX.frozen 3
     have f4:=RX.frozen 4
     go_wp2
     have R2:=ZaN RX (.int .i64 0) (.slice none 0 0) (.int .i64 0) (.int .u64 0) (.int .u64 0)
     obtain ⟨e0,e1,e2,e3,e4⟩:=Zah R2
     exact bodyPost_ret (v:=.tuple #[.agg #[.int .i64 0,.slice none 0 0,.int .i64 0,.int .u64 0,.int .u64 0],.int .i64 0,.int .i64 5]) (by simp [results,Tryz.results123,go_sem,e0,e1,e2,e3,e4]) rfl ⟨.inr ⟨HE.out,rfl⟩,Zan hb5 nr _ _ _ _ _⟩
   ·have HE:Hid (∀ m,¬ IsLine s m):=fun m' hm=>by
     have e:=HG.out m' hm
     subst e
     exact hmok hm.1
    clear hmok
    obtain ⟨d0,d1,d2,d3,d4⟩:=Zah RX
    have f0:=RX.frozen 0
    have f1:=RX.frozen 1
    have f2:=RX.frozen 2
    have f3:=RX.frozen 3
    have f4:=RX.frozen 4
    go_wp2
    have R2:=ZaN RX (.int .i64 0) (.slice none 0 0) (.int .i64 0) (.int .u64 0) (.int .u64 0)
    obtain ⟨e0,e1,e2,e3,e4⟩:=Zah R2
    exact bodyPost_ret (v:=.tuple #[.agg #[.int .i64 0,.slice none 0 0,.int .i64 0,.int .u64 0,.int .u64 0],.int .i64 0,.int .i64 5]) (by simp [results,Tryz.results123,go_sem,e0,e1,e2,e3,e4]) rfl ⟨.inr ⟨HE.out,rfl⟩,Zan hb5 nr _ _ _ _ _⟩
  ·have HE:Hid (∀ m,¬ IsLine s m):=fun m hm=>by
    have hw:=HWd.out m hm
    rcases hbad with h | ⟨i,hi,hni⟩
    ·rw [← hw,Ln.words_len] at h; omega
    ·rw [← hw,Ln.words,List.length_map] at hi
     rw [← hw] at hni
     exact hni ⟨_,wok_line hm.1 hi⟩
   clear hbad
   have RX:=R3.alloc (.cells #[.int .i64 0,.slice none 0 0,.int .i64 0,.int .u64 0,.int .u64 0] 111)
   have hb4:=hb3.alloc hb3.size (.cells #[.int .i64 0,.slice none 0 0,.int .i64 0,.int .u64 0,.int .u64 0] 111)
   obtain ⟨d0,d1,d2,d3,d4⟩:=Zah RX
   have f0:=RX.frozen 0
   have f1:=RX.frozen 1
   have f2:=RX.frozen 2
   have f3:=RX.frozen 3
   have f4:=RX.frozen 4
   unfold zeroR Rcm.val Rcm.cells
   dsimp only
   go_wp2
   have R2:=ZaN RX (.int .i64 0) (.slice none 0 0) (.int .i64 0) (.int .u64 0) (.int .u64 0)
   obtain ⟨e0,e1,e2,e3,e4⟩:=Zah R2
   exact bodyPost_ret (v:=.tuple #[.agg #[.int .i64 0,.slice none 0 0,.int .i64 0,.int .u64 0,.int .u64 0],.int .i64 0,.int .i64 5]) (by simp [results,Tryz.results123,go_sem,e0,e1,e2,e3,e4]) rfl ⟨.inr ⟨HE.out,rfl⟩,Zan hb4 nr _ _ _ _ _⟩
section
theorem infoRS:(Tryz.prog.info? 111).map (fun i=>(i.zero,i.size,i.bytes))=some (some (.agg #[.int .i64 0,.slice none 0 0,.int .i64 0,.int .u64 0,.int .u64 0]),5,56):=by kernel_rfl
def rcCellsS (R:Nat->Rcm):Nat->List Value
 | 0=>[]
 | n+1=>rcCellsS R n ++ [.int .i64 (R n).s,.slice (R n).a (R n).n (R n).k,.int .i64 (R n).r,.int .u64 (R n).root,.int .u64 (R n).chain]
theorem rcCellsS_len (R:Nat->Rcm) (n:Nat):(rcCellsS R n).length=n * 5:=by
 induction n with
 | zero=>rfl
 | succ k ih=>simp [rcCellsS,ih]; omega
theorem rcCellsS_congr {X Y:Nat->Rcm} {n:Nat} (h:∀ i,i < n->X i=Y i):rcCellsS X n=rcCellsS Y n:=by
 induction n with
 | zero=>rfl
 | succ k ih=>simp only [rcCellsS]; rw [ih (fun i hi=>h i (by omega)),h k (by omega)]
theorem rcCellsS_at (R:Nat->Rcm) {n i:Nat} (h:i < n):(rcCellsS R n)[i * 5]?=some (.int .i64 (R i).s)/\(rcCellsS R n)[i * 5+1]?=some (.slice (R i).a (R i).n (R i).k)/\(rcCellsS R n)[i * 5+2]?=some (.int .i64 (R i).r)/\(rcCellsS R n)[i * 5+3]?=some (.int .u64 (R i).root)/\(rcCellsS R n)[i * 5+4]?=some (.int .u64 (R i).chain):=by
 induction n with
 | zero=>omega
 | succ k ih =>
   have hl:=rcCellsS_len R k
   simp only [rcCellsS]
   by_cases e:i=k
   ·subst e
    rw [List.getElem?_append_right (by omega),List.getElem?_append_right (by omega),List.getElem?_append_right (by omega),List.getElem?_append_right (by omega),List.getElem?_append_right (by omega),hl]
    simp
   ·have g:=ih (by omega)
    rw [List.getElem?_append_left (by omega),List.getElem?_append_left (by omega),List.getElem?_append_left (by omega),List.getElem?_append_left (by omega),List.getElem?_append_left (by omega)]
    exact g
def OwnRS (base:Nat) (w:World) (v:Value) (n:Nat) (R:Nat->Rcm):Prop:=w.ownsRow base 111 5 v n (rcCellsS R n)
theorem OwnRS.nil (base:Nat) (w:World) (R:Nat->Rcm):OwnRS base w (.slice none 0 0) 0 R:=World.ownsRow_nil _ _ _ _
theorem OwnRS.below {base:Nat} {w w':World} {v:Value} {n:Nat} {R:Nat->Rcm} (h:OwnRS base w v n R) (hb:Below w.heap.size w w'):OwnRS base w' v n R:=by
 refine ⟨h.1,?_⟩
 rcases h.2 with h0 | ⟨g,cap,cur,hv,hg,hh,r⟩
 ·exact .inl h0
 ·exact .inr ⟨g,cap,cur,hv,hg,by rw [hb.block g (Array.getElem?_eq_some_iff.1 hh).1]; exact hh,r⟩
theorem OwnRS.congr {base:Nat} {w:World} {v:Value} {n:Nat} {X Y:Nat->Rcm} (h:OwnRS base w v n X) (e:∀ i,i < n->X i=Y i):OwnRS base w v n Y:=by
 unfold OwnRS at *
 rw [← rcCellsS_congr e]
 exact h
theorem OwnRS.blk {base:Nat} {w:World} {v:Value} {n:Nat} {R:Nat->Rcm} (h:OwnRS base w v n R):v.ownBlock=none\/∃ g,v.ownBlock=some g/\base<=g/\g < w.heap.size:=by
 rcases h.2 with ⟨rfl,_⟩ | ⟨g,cap,cur,rfl,hg,hh,_⟩
 ·exact .inl rfl
 ·exact .inr ⟨g,rfl,hg,(Array.getElem?_eq_some_iff.1 hh).1⟩
theorem OwnRS.recs {base:Nat} {w:World} {v:Value} {n:Nat} {R:Nat->Rcm} {D:Nat->List Int} (h:OwnRS base w v n R) (hin:∀ i,i < n->Lst w (R i).a (R i).n (R i).k (D i)):∃ a c,v=.slice a n c/\Recs w a n c R D:=by
 obtain ⟨hl,h2⟩:=h
 rcases h2 with ⟨rfl,rfl⟩ | ⟨g,cap,cur,rfl,_,hh,hle,_,hsz,hcur⟩
 ·exact ⟨none,0,rfl,Recs.nil _ _ _ _ _⟩
 ·refine ⟨_,cap,rfl,hle,.inr ⟨g,0,rfl,(Array.getElem?_eq_some_iff.1 hh).1,fun i hi=>?_⟩⟩
  have hc:∀ j,j < n * 5->w.cell? ⟨g,j,none⟩=(rcCellsS R n)[j]?:=fun j hj=>by
   rw [← hcur,List.getElem?_take_of_lt hj]
   simp [World.cell?,hh]
  have g2:=rcCellsS_at R hi
  simp only [Nat.zero_add]
  exact ⟨(hc _ (by omega)).trans g2.1,(hc _ (by omega)).trans g2.2.1,(hc _ (by omega)).trans g2.2.2.1,(hc _ (by omega)).trans g2.2.2.2.1,(hc _ (by omega)).trans g2.2.2.2.2,hin i hi⟩
section
variable {w' W0:World} {ops:Array Oper} {o:Oper} {a:Act} {Q:Exit->Act->World->Prop}
theorem run_append_rcS (ty:TypeId) (base:Nat) (v:Value) (n:Nat) (R:Nat->Rcm) (g:Nat) (hown:OwnRS base w' v n R) (hrow:w'.rowIs g 111 5 (fn5 (.int .i64 (R n).s) (.slice (R n).a (R n).n (R n).k) (.int .i64 (R n).r) (.int .u64 (R n).root) (.int .u64 (R n).chain))) (hn:(n+1) * 56<=140737488355328) (hbase:base<=w'.heap.size) :
  ∃ v' w1,(Builtin.append_ #[81,81] ty #[v,.slice (some ⟨g,0,none⟩) 1 1]).run Tryz.prog w'=.ok v' w1/\OwnRS base w1 v' (n+1) R/\w'.grownBy w1 v.ownBlock/\(v'.ownBlock=v.ownBlock\/v'.ownBlock=some w'.heap.size):=by
 obtain ⟨i0,hi,hz0,hz1,hz2⟩:=info_parts infoRS
 obtain ⟨b0,b1,b2,b3,b4⟩:=Zam hrow
 obtain ⟨v',w1,hrun,h1,h2,_,h3⟩:=run_append_own_at (P:=Tryz.prog) w' base 81 ty 111 i0 (.agg #[.int .i64 0,.slice none 0 0,.int .i64 0,.int .u64 0,.int .u64 0]) 5 56 Tryz.underlying81 hi hz0 hz1 hz2 rfl (by decide) v n _ hown ⟨g,0,none⟩ 1 1 [.int .i64 (R n).s,.slice (R n).a (R n).n (R n).k,.int .i64 (R n).r,.int .u64 (R n).root,.int .u64 (R n).chain] rfl
  (by intro j u hj
      match j,hj with
      | 0,hj=>simp at hj; subst hj; simpa [Addr.add] using b0
      | 1,hj=>simp at hj; subst hj; simpa [Addr.add] using b1
      | 2,hj=>simp at hj; subst hj; simpa [Addr.add] using b2
      | 3,hj=>simp at hj; subst hj; simpa [Addr.add] using b3
      | 4,hj=>simp at hj; subst hj; simpa [Addr.add] using b4)
  (by intro u hu
      simp at hu
      rcases hu with rfl | rfl | rfl | rfl | rfl <;> rfl) (by unfold maxLen; omega) hn hbase
 exact ⟨v',w1,hrun,h1,h2,h3⟩
theorem ZbT {rest:List Oper} (hgd:o.guard=none) (s x:Operand) (ho:o.op=.call { callee:=.builtin .append,args:=#[s,x],argTypes:=#[81,81] })
  (base:Nat) (v:Value) (n:Nat) (R:Nat->Rcm) (g:Nat) (hs:a.eval s=v) (hx:a.eval x=.slice (some ⟨g,0,none⟩) 1 1) (hown:OwnRS base w' v n R) (hrow:w'.rowIs g 111 5 (fn5 (.int .i64 (R n).s) (.slice (R n).a (R n).n (R n).k) (.int .i64 (R n).r) (.int .u64 (R n).root) (.int .u64 (R n).chain))) (hn:(n+1) * 56<=140737488355328) (hbase:base<=w'.heap.size)
  (h:∀ v' w1,OwnRS base w1 v' (n+1) R->w'.grownBy w1 v.ownBlock->(v'.ownBlock=v.ownBlock\/v'.ownBlock=some w'.heap.size)->wpList Tryz.prog ops Q rest (a.put o.dst v') w1):wpList Tryz.prog ops Q (o :: rest) a w':=by
 obtain ⟨v',w1,hrun,h1,h2,h3⟩:=run_append_rcS o.type base v n R g hown hrow hn hbase
 refine wpList_plain hgd fun K hK=>?_
 unfold Oper.wp
 simp [execOp,ho,resolve,invoke,builtin,hs,hx,hrun,Result.andThen]
 exact hK _ _ (h v' w1 h1 h2 h3)
end
theorem Lst.keptS {w w':World} {a:Option Addr} {n c:Nat} {xs:List Int} {row:Option Nat} (h:Lst w a n c xs) (hg:w.grownBy w' row) (hne:n=0\/∀ bb oo,a=some ⟨bb,oo,none⟩->row ≠ some bb):Lst w' a n c xs:=by
 refine ⟨h.1,h.2.1,?_⟩
 rcases h.2.2 with h0 | ⟨b',off',e,hs,hc⟩
 ·exact .inl h0
 ·by_cases h0:n=0
  ·exact .inl h0
  ·exact .inr ⟨b',off',e,Nat.lt_of_lt_of_le hs hg.size,fun i hi=>hg.cell (hc i hi) (fun e2=>(hne.resolve_left h0) b' off' e e2.symm)⟩
def flatLn (ls:List Ln):List UInt8:=(ls.map Ln.text).flatten
theorem flatL_snoc (ls:List Ln) (l:Ln):flatLn (ls ++ [l])=flatLn ls ++ l.text:=by simp [flatLn]
def lnAt (ls:List Ln) (j:Nat):Ln:=(ls[j]?).getD ⟨0,0,0,0,[]⟩
structure BegTo (s:List UInt8) (ls:List Ln):Prop where
 ok:∀ j,j < ls.length->(lnAt ls j).ok
 step:∀ j,j < ls.length->(lnAt ls j).s=(j:Int)
 pre:flatLn ls <+: s
structure Beg (s:List UInt8) (ls:List Ln):Prop extends BegTo s ls where
 stop:∀ l,IsLine (s.drop (flatLn ls).length) l->l.s ≠ (ls.length:Int)
theorem lnAt_snoc (ls:List Ln) (l:Ln) (j:Nat):lnAt (ls ++ [l]) j=if j < ls.length then lnAt ls j else if j=ls.length then l else ⟨0,0,0,0,[]⟩:=by
 unfold lnAt
 by_cases h:j < ls.length
 ·rw [if_pos h,List.getElem?_append_left h]
 ·rw [if_neg h]
  by_cases h2:j=ls.length
  ·subst h2; simp
  ·rw [if_neg h2,List.getElem?_eq_none (by simp; omega)]; rfl
theorem BegTo.nil (s:List UInt8):BegTo s []:=⟨fun j hj=>by simp at hj,fun j hj=>by simp at hj,List.nil_prefix⟩
theorem BegTo.len {s:List UInt8} {ls:List Ln} (h:BegTo s ls):ls.length<=100:=by
 by_cases h0:ls.length=0
 ·omega
 ·have h1:=(h.ok (ls.length - 1) (by omega)).s.2
  have h2:=h.step (ls.length - 1) (by omega)
  omega
theorem BegTo.snoc {s:List UInt8} {ls:List Ln} {l:Ln} (h:BegTo s ls) (hl:IsLine (s.drop (flatLn ls).length) l) (hs:l.s=(ls.length:Int)):BegTo s (ls ++ [l]):=by
 refine ⟨fun j hj=>?_,fun j hj=>?_,?_⟩
 ·rw [lnAt_snoc]
  rw [List.length_append,List.length_singleton] at hj
  by_cases h1:j < ls.length
  ·rw [if_pos h1]; exact h.ok j h1
  ·rw [if_neg h1,if_pos (by omega)]; exact hl.1
 ·rw [lnAt_snoc]
  rw [List.length_append,List.length_singleton] at hj
  by_cases h1:j < ls.length
  ·rw [if_pos h1]; exact h.step j h1
  ·rw [if_neg h1,if_pos (by omega),hs]; congr 1; omega
 ·rw [flatL_snoc]
  obtain ⟨t,ht⟩:=h.pre
  obtain ⟨u,hu⟩:=hl.2
  rw [← ht,List.drop_left] at hu
  exact ⟨u,by rw [List.append_assoc,hu,ht]⟩
theorem BegTo.le {s:List UInt8} {ls:List Ln} (h:BegTo s ls):(flatLn ls).length<=s.length:=h.pre.length_le
theorem flatL_mid (a b:List Ln) (l:Ln):flatLn (a ++ l :: b)=flatLn a ++ (l.text ++ flatLn b):=by simp [flatLn]
theorem flatL_take (ls:List Ln) (k:Nat) (hk:k < ls.length):flatLn ls=flatLn (ls.take k) ++ ((lnAt ls k).text ++ flatLn (ls.drop (k+1))):=by
 have e:ls=ls.take k ++ (ls[k] :: ls.drop (k+1)):=by rw [← List.drop_eq_getElem_cons hk,List.take_append_drop]
 have e2:lnAt ls k=ls[k]:=by unfold lnAt; rw [List.getElem?_eq_getElem hk]; rfl
 rw [e2]
 exact (congrArg flatLn e).trans (flatL_mid _ _ _)
theorem BegTo.agree {s:List UInt8} {ls ms:List Ln} (h:BegTo s ls) (g:BegTo s ms):∀ k,k<=ls.length->k<=ms.length->ls.take k=ms.take k
 | 0,_,_=>by simp
 | k + 1, h1, h2 => by
   have ih:=BegTo.agree h g k (by omega) (by omega)
   have a1:=flatL_take ls k (by omega)
   have a2:=flatL_take ms k (by omega)
   have i1:IsLine (s.drop (flatLn (ls.take k)).length) (lnAt ls k):=by
    refine ⟨h.ok k (by omega),?_⟩
    obtain ⟨t,ht⟩:=h.pre
    rw [← ht,a1]
    exact ⟨flatLn (ls.drop (k+1)) ++ t,by simp⟩
   have i2:IsLine (s.drop (flatLn (ms.take k)).length) (lnAt ms k):=by
    refine ⟨g.ok k (by omega),?_⟩
    obtain ⟨t,ht⟩:=g.pre
    rw [← ht,a2]
    exact ⟨flatLn (ms.drop (k+1)) ++ t,by simp⟩
   rw [ih] at i1
   have e:=i1.unique i2
   have e1:lnAt ls k=ls[k]:=by unfold lnAt; rw [List.getElem?_eq_getElem (show k < ls.length by omega)]; rfl
   have e2:lnAt ms k=ms[k]:=by unfold lnAt; rw [List.getElem?_eq_getElem (show k < ms.length by omega)]; rfl
   rw [List.take_add_one,List.take_add_one,ih,List.getElem?_eq_getElem (show k < ls.length by omega),List.getElem?_eq_getElem (show k < ms.length by omega),← e1,← e2,e]
theorem Beg.ge {s:List UInt8} {ls ms:List Ln} (h:Beg s ls) (g:BegTo s ms):ms.length<=ls.length:=by
 apply Nat.le_of_not_lt
 intro hlt
 have e:=h.toBegTo.agree g ls.length nr (by omega)
 rw [List.take_length] at e
 have a2:=flatL_take ms ls.length hlt
 refine h.stop (lnAt ms ls.length) ⟨g.ok _ hlt,?_⟩ (g.step _ hlt)
 obtain ⟨t,ht⟩:=g.pre
 rw [← ht,a2,← e]
 exact ⟨flatLn (ms.drop (ls.length+1)) ++ t,by simp⟩
theorem Beg.unique {s:List UInt8} {ls ms:List Ln} (h:Beg s ls) (g:Beg s ms):ls=ms:=by
 have h1:=h.ge g.toBegTo
 have h2:=g.ge h.toBegTo
 have e:=h.toBegTo.agree g.toBegTo ls.length nr (by omega)
 rw [List.take_length,List.take_of_length_le (by omega)] at e
 exact e
structure BgSt (w:World) (s:List UInt8) (ls:List Ln) (v:Value) (R:Nat->Rcm) (wr:World):Prop where
 beg:BegTo s ls
 own:OwnRS w.heap.size wr v ls.length R
 eq:∀ j,j < ls.length->(R j).ln (lnAt ls j).b=lnAt ls j
 lst:∀ j,j < ls.length->Lst wr (R j).a (R j).n (R j).k (lnAt ls j).b/\((R j).n=0\/∀ bb oo,(R j).a=some ⟨bb,oo,none⟩->v.ownBlock ≠ some bb)
 old:Below w.heap.size w wr
 fr:∀ j,j < ls.length->∀ bb oo,(R j).a=some ⟨bb,oo,none⟩->w.heap.size<=bb
theorem BgSt.below {w wr w2:World} {s:List UInt8} {ls:List Ln} {v:Value} {R:Nat->Rcm} (h:BgSt w s ls v R wr) (hb:Below wr.heap.size wr w2):BgSt w s ls v R w2 :=
 ⟨h.beg,h.own.below hb,h.eq,fun j hj=>⟨(h.lst j hj).1.below hb nr,(h.lst j hj).2⟩,h.old.trans (hb.mono h.old.size),h.fr⟩
def FreshR (w:World) (a:Option Addr) (R:Nat->Rcm) (n:Nat):Prop:=(∀ g o,a=some ⟨g,o,none⟩->w.heap.size<=g)/\∀ j,j < n->∀ g o,(R j).a=some ⟨g,o,none⟩->w.heap.size<=g
theorem OwnRS.fresh {base:Nat} {w:World} {a:Option Addr} {n c:Nat} {R:Nat->Rcm} (h:OwnRS base w (.slice a n c) n R):∀ g o,a=some ⟨g,o,none⟩->base<=g:=fun g o e=>by
 subst e
 rcases h.2 with ⟨h0,_⟩ | ⟨g',cap,cur,hv,hg,_⟩
 ·cases h0
 ·injection hv with e1
  simp only [Option.some.injEq,Addr.mk.injEq] at e1
  omega
def RightR (s:List UInt8) (w:World) (e:Ending) (w':World):Prop :=
 ∃ (ls:List Ln) (a:Option Addr) (c:Nat) (R:Nat->Rcm),Beg s ls/\(∀ j,j < ls.length->(R j).ln (lnAt ls j).b=lnAt ls j)/\Recs w' a ls.length c R (fun j=>(lnAt ls j).b)/\FreshR w a R ls.length/\e=.returned (.tuple #[.slice a ls.length c,.int .i64 (flatLn ls).length])
theorem BgSt.push {w w1 w2:World} {s:List UInt8} {ls:List Ln} {v v':Value} {R:Nat->Rcm} {l:Ln} {x:Rcm} (h:BgSt w s ls v R w1) (hl:IsLine (s.drop (flatLn ls).length) l) (hs:l.s=(ls.length:Int)) (hx:x.ln l.b=l)
  (hlst:Lst w1 x.a x.n x.k l.b) (hfar:x.n=0\/∀ bb oo,x.a=some ⟨bb,oo,none⟩->v.ownBlock ≠ some bb) (hR:R ls.length=x) (hown:OwnRS w.heap.size w2 v' (ls.length+1) R) (hgr:w1.grownBy w2 v.ownBlock)
  (hob:v'.ownBlock=v.ownBlock\/v'.ownBlock=some w1.heap.size) (hold:Below w.heap.size w w2) (hfr:∀ bb oo,x.a=some ⟨bb,oo,none⟩->w.heap.size<=bb):BgSt w s (ls ++ [l]) v' R w2:=by
 have hlen:(ls ++ [l]).length=ls.length+1:=by simp
 have far:∀ (y:Rcm) (D:List Int),Lst w1 y.a y.n y.k D->(y.n=0\/∀ bb oo,y.a=some ⟨bb,oo,none⟩->v.ownBlock ≠ some bb)->(y.n=0\/∀ bb oo,y.a=some ⟨bb,oo,none⟩->v'.ownBlock ≠ some bb):=fun y D hy hf=>by
  rcases hf with h0 | hf
  ·exact .inl h0
  ·by_cases h0:y.n=0
   ·exact .inl h0
   ·refine .inr fun bb oo e=>?_
    rcases hob with h1 | h1
    ·rw [h1]; exact hf bb oo e
    ·rw [h1]
     obtain ⟨b',o',e',hs',_⟩:=hy.at (by omega)
     rw [e'] at e
     simp only [Option.some.injEq,Addr.mk.injEq,and_true] at e
     intro e2
     simp only [Option.some.injEq] at e2
     omega
 refine ⟨h.beg.snoc hl hs,by rw [hlen]; exact hown,fun j hj=>?_,fun j hj=>?_,hold,fun j hj=>?_⟩
 ·rw [hlen] at hj
  rw [lnAt_snoc]
  by_cases h1:j < ls.length
  ·rw [if_pos h1]; exact h.eq j h1
  ·obtain rfl:j=ls.length:=by omega
   rw [if_neg h1,if_pos rfl,hR]; exact hx
 ·rw [hlen] at hj
  rw [lnAt_snoc]
  by_cases h1:j < ls.length
  ·rw [if_pos h1]
   obtain ⟨q1,q2⟩:=h.lst j h1
   exact ⟨q1.keptS hgr q2,far _ _ q1 q2⟩
  ·obtain rfl:j=ls.length:=by omega
   rw [if_neg h1,if_pos rfl,hR]
   exact ⟨hlst.keptS hgr hfar,far _ _ hlst hfar⟩
 ·rw [hlen] at hj
  by_cases h1:j < ls.length
  ·exact h.fr j h1
  ·obtain rfl:j=ls.length:=by omega
   rw [hR]; exact hfr
end
theorem right_calls (S:ByteArray) (s:List UInt8) (w:World) (hS:Hid (S.data.toList=s)) (hs:S.size<=1048576) (hL:LD w) :
  Calls Tryz.prog 82 #[.string S] w fun e w'=>RightR s w e w'/\Below w.heap.size w w':=by
 have hsl:s.length=S.size:=by rw [← hS.out]; rfl
 have KP:Hid (∀ (n:Nat) q,n<=S.size->Below w.heap.size w q->Calls Tryz.prog 123 #[.string (S.extract n S.size)] q fun e w'=>ParseR (s.drop n) q e w'/\Below q.heap.size q w'):=fun n q hn hq=>by
  have e:S.extract n S.size=⟨(s.drop n).toArray⟩:=by
   apply Go.WideShapes.bytes_inj
   rw [Lib.extract_to_end,hS.out]
  rw [e]
  exact parse_calls (s.drop n) q (by rw [List.length_drop]; omega) (hL.below hq nr)
 have B0:BgSt w s [] (.slice none 0 0) (fun _=>zeroR) w:=⟨BegTo.nil s,OwnRS.nil _ _ _,fun j hj=>by simp at hj,fun j hj=>by simp at hj,br,fun j hj=>by simp at hj⟩
 clear hL
 go_enter Tryz.func82,Tryz.ntmps82
 go_wp2
 go_loopw [4,5] (fun v i wr=>∃ (ls:List Ln) (R:Nat->Rcm) (N:Nat) (V:Value),v=V/\i=.int .i64 N/\Hid ((flatLn ls).length=N)/\BgSt w s ls V R wr) (fun _ i _=>S.size - (intOf i).toNat)
 case atStart=>exact ⟨[],_,0,_,rfl,rfl,rfl,B0⟩
 case round =>
  obtain ⟨ls,R,N,v,hv0,rfl,HN,B⟩:=hrel
  replace hv0:=hv0.symm
  subst hv0
  have hNs:N<=S.size:=by have:=B.beg.le; have:=HN.out; omega
  have n0:(0:Int)<=(N:Int):=by omega
  have n1:(N:Int)<=(S.size:Int):=by omega
  have hlen:=B.beg.len
  have SP:=KP.out N wr hNs B.old
  obtain ⟨M,HM⟩:=nm (ls.length)
  have hM100:M<=100:=by rw [← HM.out]; exact hlen
  go_wp2_with fail
  refine SP.mono ?_
  rintro e w2 ⟨hp,hw2⟩
  have B2:=B.below hw2
  rcases hp with ⟨l,x,hIs,hx,lx,hfr,rfl⟩ | ⟨hno,rfl⟩
  ·have HIs:Hid (IsLine (s.drop (flatLn ls).length) l):=by rw [HN.out]; exact hIs
   have HX:=Lib.hid hx
   have hfar:x.n=0\/∀ bb oo,x.a=some ⟨bb,oo,none⟩->v.ownBlock ≠ some bb:=.inr fun bb oo e=>by
    have h1:=hfr bb oo e
    rcases B.own.blk with h | ⟨g,h,_,hlt⟩
    ·rw [h]; simp
    ·rw [h]; intro e2; simp only [Option.some.injEq] at e2; omega
   have HFrx:Hid (∀ bb oo,x.a=some ⟨bb,oo,none⟩->w.heap.size<=bb):=fun bb oo e=>Nat.le_trans B.old.size (hfr bb oo e)
   have hxs:x.s=l.s:=by rw [← hx]; rfl
   have hlt:1<=l.text.length:=text_ne l
   have hle:N+l.text.length<=S.size:=by
    have h:=hIs.2.length_le
    rw [List.length_drop] at h
    omega
   obtain ⟨TL,HTL⟩:=nm (l.text.length)
   rw [HTL.out] at hlt hle
   by_cases hst:l.s=(M:Int)
   ·obtain ⟨R',hR'⟩:∃ R':Nat->Rcm,R'=fun j=>if j < M then R j else x:=⟨_,rfl⟩
    have hRM:R' ls.length=x:=by rw [hR',HM.out]; simp
    have hRlt:∀ j,j < ls.length->R j=R' j:=fun j hj=>by rw [hR']; simp only; rw [if_pos (by rw [← HM.out]; exact hj)]
    have HOw:Hid (∀ q,Below w2.heap.size w2 q->OwnRS w.heap.size q v M R'):=fun q hq=>by rw [← HM.out]; exact (B2.own.below hq).congr hRlt
    have HBq:Hid (∀ q,Below w2.heap.size w2 q->BgSt w s ls v R' q):=fun q hq=>by
     have h:=B2.below hq
     exact ⟨h.beg,h.own.congr hRlt,fun j hj=>by rw [← hRlt j hj]; exact h.eq j hj,fun j hj=>by rw [← hRlt j hj]; exact h.lst j hj,h.old,fun j hj=>by rw [← hRlt j hj]; exact h.fr j hj⟩
    have hxM:R' M=x:=by rw [← HM.out]; exact hRM
    have HRM:=Lib.hid hRM
    have Hlx:=Lib.hid (fun q (hq:Below w2.heap.size w2 q)=>lx.below hq nr)
    have Hst:Hid (l.s=(ls.length:Int)):=by rw [HM.out]; exact hst
    have hMc:v.ownBlock=none\/True:=.inr trivial
    obtain ⟨av,cv,hv,_⟩:=B.own.recs (D:=fun j=>(lnAt ls j).b) (fun i hi=>(B.lst i hi).1)
    rw [HM.out] at hv
    subst hv
    have HFar:=Lib.hid hfar
    clear hR' hRlt hx hIs lx hfr hfar hMc
    obtain ⟨xs,xa,xn,xk,xr,xroot,xchain⟩:=x
    simp only [Rcm.val,Rcm.cells] at *
    have hne1:(xs != (M:Int))=false:=by rw [bne_eq_false_iff_eq]; omega
    clear hxs hst
    have A1:Below w2.heap.size w2 (w2.alloc (.cells #[.int .i64 xs,.slice xa xn xk,.int .i64 xr,.int .u64 xroot,.int .u64 xchain] 111)):=br.alloc nr _
    have A2:=A1.alloc A1.size (.cells #[.int .i64 xs,.slice xa xn xk,.int .i64 xr,.int .u64 xroot,.int .u64 xchain] 111)
    have RW:((w2.alloc (.cells #[.int .i64 xs,.slice xa xn xk,.int .i64 xr,.int .u64 xroot,.int .u64 xchain] 111)).alloc (.cells #[.int .i64 xs,.slice xa xn xk,.int .i64 xr,.int .u64 xroot,.int .u64 xchain] 111)).rowIs (w2.heap.size+1) 111 5 (fn5 (.int .i64 (R' M).s) (.slice (R' M).a (R' M).n (R' M).k) (.int .i64 (R' M).r) (.int .u64 (R' M).root) (.int .u64 (R' M).chain)):=by
     rw [hxM]
     have h:=Zao (w2.alloc (.cells #[.int .i64 xs,.slice xa xn xk,.int .i64 xr,.int .u64 xroot,.int .u64 xchain] 111)) (.int .i64 xs) (.slice xa xn xk) (.int .i64 xr) (.int .u64 xroot) (.int .u64 xchain) 111
     simpa using h
    have O2:=HOw.out _ A2
    have BQ:=HBq.out _ A2
    have LX:=Hlx.out _ A2
    have hbs:=BQ.old.size
    have HG:=Lib.hid RW
    have OO:=Lib.hid O2
    clear RW O2 hxM hRM
    rw [HTL.out]
    go_wp2_with (at_builtin; refine ZbT (by rfl) _ _ (by rfl) w.heap.size (.slice av M cv) M R' (w2.heap.size+1) (by rfl) (by rfl) (by exact OO.out) (by exact HG.out) (by omega) (by exact hbs) ?_; intro v9 w9 O9 G9 H9)
    go_roundw
    case rel =>
     refine ⟨ls ++ [l],R',N+TL,_,by trivial,by go_num,?_,?_⟩
     ·show _=_
      rw [flatL_snoc,List.length_append,HN.out,HTL.out]
     ·refine BQ.push HIs.out Hst.out HX.out LX HFar.out HRM.out (by rw [HM.out]; exact O9) G9 H9 ?_ HFrx.out
      exact BQ.old.grown G9 hbs (fun k hk=>by
       rcases BQ.own.blk with h | ⟨g,h,hg,_⟩
       ·rw [h] at hk; cases hk
       ·rw [h] at hk; simp only [Option.some.injEq] at hk; omega)
    case measure=>simp [intOf]; omega
   ·have HBg:Hid (Beg s ls):=⟨B2.beg,fun m hm e=>by
     have:=HIs.out.unique hm
     subst this
     rw [HM.out] at e
     exact hst e⟩
    clear hx hIs lx hfr hfar
    obtain ⟨xs,xa,xn,xk,xr,xroot,xchain⟩:=x
    simp only [Rcm.val,Rcm.cells] at *
    have hne1:(xs != (M:Int))=true:=by rw [bne_iff_ne]; omega
    clear hxs hst
    obtain ⟨av,cv,hv,RC⟩:=(B2.below (Joins.below_alloc1 w2 (.cells #[.int .i64 xs,.slice xa xn xk,.int .i64 xr,.int .u64 xroot,.int .u64 xchain] 111))).own.recs (D:=fun j=>(lnAt ls j).b) (fun i hi=>((B2.below (Joins.below_alloc1 w2 (.cells #[.int .i64 xs,.slice xa xn xk,.int .i64 xr,.int .u64 xroot,.int .u64 xchain] 111))).lst i hi).1)
    rw [HM.out] at hv RC
    subst hv
    have HRC:=Lib.hid RC
    have HO:=Lib.hid (B2.below (Joins.below_alloc1 w2 (.cells #[.int .i64 xs,.slice xa xn xk,.int .i64 xr,.int .u64 xroot,.int .u64 xchain] 111)))
    clear RC
    go_wp2
    go_ret2
    exact ⟨⟨ls,av,cv,R,HBg.out,HO.out.eq,by rw [HM.out]; exact HRC.out,⟨OwnRS.fresh (show OwnRS w.heap.size _ (.slice av ls.length cv) ls.length R by rw [HM.out]; have h:=HO.out.own; rw [HM.out] at h; exact h),HO.out.fr⟩,by rw [HM.out,HN.out]; rfl⟩,HO.out.old⟩
  ·have HBg:Hid (Beg s ls):=⟨B2.beg,fun m hm _=>hno m (by rw [← HN.out]; exact hm)⟩
   clear hno
   unfold zeroR Rcm.val Rcm.cells
   dsimp only
   obtain ⟨av,cv,hv,RC⟩:=(B2.below (Joins.below_alloc1 w2 (.cells #[.int .i64 0,.slice none 0 0,.int .i64 0,.int .u64 0,.int .u64 0] 111))).own.recs (D:=fun j=>(lnAt ls j).b) (fun i hi=>((B2.below (Joins.below_alloc1 w2 (.cells #[.int .i64 0,.slice none 0 0,.int .i64 0,.int .u64 0,.int .u64 0] 111))).lst i hi).1)
   rw [HM.out] at hv RC
   subst hv
   have HRC:=Lib.hid RC
   have HO:=Lib.hid (B2.below (Joins.below_alloc1 w2 (.cells #[.int .i64 0,.slice none 0 0,.int .i64 0,.int .u64 0,.int .u64 0] 111)))
   clear RC
   go_wp2
   go_ret2
   exact ⟨⟨ls,av,cv,R,HBg.out,HO.out.eq,by rw [HM.out]; exact HRC.out,⟨OwnRS.fresh (show OwnRS w.heap.size _ (.slice av ls.length cv) ls.length R by rw [HM.out]; have h:=HO.out.own; rw [HM.out] at h; exact h),HO.out.fr⟩,by rw [HM.out,HN.out]; rfl⟩,HO.out.old⟩
structure Keeps (b:Nat) (w w':World):Prop where
 os:w'.os=w.os
 tape:w'.tape=w.tape
 output:w'.output=w.output
 size:w.heap.size<=w'.heap.size
 block:∀ k,k < w.heap.size->k ≠ b->w'.heap[k]?=w.heap[k]?
theorem Keeps.trans {b:Nat} {w w1 w2:World} (h:Keeps b w w1) (g:Keeps b w1 w2):Keeps b w w2 :=
 ⟨g.os.trans h.os,g.tape.trans h.tape,g.output.trans h.output,Nat.le_trans h.size g.size,fun k hk hb=>(g.block k (Nat.lt_of_lt_of_le hk h.size) hb).trans (h.block k hk hb)⟩
theorem Keeps.ofBelow {b:Nat} {w w':World} (h:Below w.heap.size w w'):Keeps b w w':=⟨h.os,h.tape,h.output,h.size,fun k hk _=>h.block k hk⟩
theorem Keeps.set (b i:Nat) (w:World) (v:Value):Keeps b w (w.setCell ⟨b,i,none⟩ v) :=
 ⟨rfl,rfl,rfl,by simp,fun k _ hb=>Below.heap_setCell w ⟨b,i,none⟩ v k hb⟩
theorem Keeps.below {b B:Nat} {w0 w w':World} (h:Keeps b w w') (hB:Below B w0 w) (h1:B<=b) (h2:B<=w.heap.size):Below B w0 w' :=
 ⟨h.os.trans hB.os,h.tape.trans hB.tape,h.output.trans hB.output,Nat.le_trans hB.size h.size,fun k hk=>(h.block k (by omega) (by omega)).trans (hB.block k hk)⟩
theorem Keeps.cell {b:Nat} {w w':World} (h:Keeps b w w') {a:Addr} (ha:a.block < w.heap.size) (hb:a.block ≠ b):w'.cell? a=w.cell? a:=by
 simp only [World.cell?,h.block _ ha hb]
theorem Lst.keeps {w w':World} {a:Option Addr} {n c b:Nat} {xs:List Int} (h:Lst w a n c xs) (hk:Keeps b w w') (hne:n=0\/∀ bb oo,a=some ⟨bb,oo,none⟩->bb ≠ b):Lst w' a n c xs:=by
 refine ⟨h.1,h.2.1,?_⟩
 rcases h.2.2 with h0 | ⟨b',off',e,hs,hc⟩
 ·exact .inl h0
 ·by_cases h0:n=0
  ·exact .inl h0
  ·exact .inr ⟨b',off',e,Nat.lt_of_lt_of_le hs hk.size,fun i hi=>(hk.cell (a:=⟨b',off'+i,none⟩) hs ((hne.resolve_left h0) b' off' e)).trans (hc i hi)⟩
theorem arr_cat2 (x y:List UInt8):(⟨x.toArray⟩:ByteArray) ++ ⟨y.toArray⟩=⟨(x ++ y).toArray⟩:=by
 apply ByteArray.ext
 simp
def fnS (v0 v1 v2:Value) (i:Nat):Value:=if i=0 then v0 else if i=1 then v1 else v2
theorem ltS {i:Nat} (h:i < 3):i=0\/i=1\/i=2:=by omega
def StoAt (w:World) (b:Nat) (T:List UInt8) (room sy:Int):Prop:=w.rowIs b 88 3 (fnS (.string ⟨T.toArray⟩) (.int .i64 room) (.int .i64 sy))
theorem StoAt.cells {w:World} {b:Nat} {T:List UInt8} {room sy:Int} (h:StoAt w b T room sy):w.cell? ⟨b,0,none⟩=some (.string ⟨T.toArray⟩)/\w.cell? ⟨b,1,none⟩=some (.int .i64 room)/\w.cell? ⟨b,2,none⟩=some (.int .i64 sy) :=
 ⟨h.cell (i:=0) (by omega),h.cell (i:=1) (by omega),h.cell (i:=2) (by omega)⟩
theorem StoAt.lt {w:World} {b:Nat} {T:List UInt8} {room sy:Int} (h:StoAt w b T room sy):b < w.heap.size:=World.rowIs.lt h
theorem StoAt.below {w w':World} {b:Nat} {T:List UInt8} {room sy:Int} (h:StoAt w b T room sy) (hb:Below w.heap.size w w'):StoAt w' b T room sy:=World.rowIs.of_block h (hb.block _ h.lt)
theorem StoAt.setT {w:World} {b:Nat} {T:List UInt8} {room sy:Int} (h:StoAt w b T room sy) (T':List UInt8):StoAt (w.setCell ⟨b,0,none⟩ (.string ⟨T'.toArray⟩)) b T' room sy:=by
 refine World.rowIs.congr (World.rowIs.set h 0 _) (fun i hi=>?_)
 rcases ltS hi with rfl | rfl | rfl <;> rfl
theorem StoAt.setS {w:World} {b:Nat} {T:List UInt8} {room sy:Int} (h:StoAt w b T room sy) (x:Int):StoAt (w.setCell ⟨b,2,none⟩ (.int .i64 x)) b T room x:=by
 refine World.rowIs.congr (World.rowIs.set h 2 _) (fun i hi=>?_)
 rcases ltS hi with rfl | rfl | rfl <;> rfl
theorem StoAt.made (w:World) (room:Int):StoAt (w.alloc (.cells #[.string ⟨#[]⟩,.int .i64 room,.int .i64 0] 88)) w.heap.size [] room 0 :=
 World.rowIs_alloc w _ 88 _ (by
  intro i hi
  rcases ltS hi with rfl | rfl | rfl <;> rfl)
theorem new_good (room:Int) (h0:0<=room) (h1:room<=8192) (w:World):Calls Tryz.prog 29 #[.int .i64 room] w fun e w'=>e=.returned (.tuple #[.pointer (some ⟨w.heap.size,0,none⟩),.int .i64 0])/\w'=w.alloc (.cells #[.string ⟨#[]⟩,.int .i64 room,.int .i64 0] 88):=by
 go_enter Tryz.func29,Tryz.ntmps29
 go_wp2
 go_ret2
 exact ⟨rfl,rfl⟩
theorem sync_calls (b:Nat) (T:List UInt8) (room sy:Int) (w:World) (h:StoAt w b T room sy) :
  Calls Tryz.prog 49 #[.pointer (some ⟨b,0,none⟩)] w fun e w'=>e=.returned (.tuple #[])/\StoAt w' b T room T.length/\Keeps b w w':=by
 obtain ⟨c0,c1,c2⟩:=h.cells
 have f2:=World.rowIs.frozen h 2
 have HR:=Lib.hid (h.setS T.length)
 obtain ⟨X,HX⟩:=nm ((⟨T.toArray⟩:ByteArray))
 have hx:X.size=T.length:=by rw [← HX.out]; rfl
 rw [HX.out] at c0
 clear h
 go_enter Tryz.func49,Tryz.ntmps49
 go_wp2
 go_end0
 exact ⟨rfl,HR.out,Keeps.set _ _ _ _⟩
theorem leave_calls (b:Nat) (T:List UInt8) (room sy:Int) (n:Nat) (hn:n<=T.length) (w:World) (h:StoAt w b T room sy) :
  Calls Tryz.prog 56 #[.pointer (some ⟨b,0,none⟩),.int .i64 n] w fun e w'=>e=.returned (.tuple #[])/\StoAt w' b (T.take n) room n/\Keeps b w w':=by
 obtain ⟨c0,c1,c2⟩:=h.cells
 have f0:=World.rowIs.frozen h 0
 have HR:=Lib.hid (h.setT (T.take n))
 obtain ⟨X,HX⟩:=nm ((⟨T.toArray⟩:ByteArray))
 have hx:X.size=T.length:=by rw [← HX.out]; rfl
 have HE:Hid (X.extract 0 n=⟨(T.take n).toArray⟩):=by show _=_; rw [← HX.out,take_arr]
 have hlen:(T.take n).length=n:=by rw [List.length_take]; omega
 have HSy:=Lib.hid (sync_calls b (T.take n) room sy _ (h.setT (T.take n)))
 rw [HX.out] at c0
 have n0:(0:Int)<=(n:Int):=by omega
 have n1:(n:Int)<=(X.size:Int):=by omega
 rw [hlen] at HSy
 clear h hlen
 go_enter Tryz.func56,Tryz.ntmps56
 go_wp2_with fail
 rw [HE.out]
 refine HSy.out.mono ?_
 rintro e w1 ⟨rfl,S1,K1⟩
 go_wp2
 go_end0
 exact ⟨rfl,S1,(Keeps.set _ _ _ _).trans K1⟩
def crN (len sy:Nat) (keep:Int):Nat:=sy+(min (max keep 0) ((len:Int) - (sy:Int))).toNat
theorem crN_le {len sy:Nat} (keep:Int) (h:sy<=len):sy<=crN len sy keep/\crN len sy keep<=len:=by unfold crN; omega
theorem crash_calls (b:Nat) (T:List UInt8) (room:Int) (sy:Nat) (hsy:sy<=T.length) (hT:T.length<=8192) (keep:Int) (w:World) (h:StoAt w b T room sy) :
  Calls Tryz.prog 34 #[.pointer (some ⟨b,0,none⟩),.int .i64 keep] w fun e w'=>e=.returned (.tuple #[])/\StoAt w' b (T.take (crN T.length sy keep)) room (crN T.length sy keep)/\Keeps b w w':=by
 obtain ⟨c0,c1,c2⟩:=h.cells
 obtain ⟨X,HX⟩:=nm ((⟨T.toArray⟩:ByteArray))
 have hx:X.size=T.length:=by rw [← HX.out]; rfl
 rw [HX.out] at c0
 have hcr:=crN_le keep hsy
 obtain ⟨N,HN⟩:=nm (crN T.length sy keep)
 rw [HN.out] at hcr
 have hd0:w.drew.cell? ⟨b,0,none⟩=some (.string X):=c0
 have wr1:IntKind.i64.wrap ((T.length:Int) - (sy:Int))=(T.length:Int) - (sy:Int):=ZaK _ (by omega) (by omega)
 obtain ⟨M,HM⟩:=nm (α:=Int) (min (max keep 0) ((T.length:Int) - (sy:Int)))
 have hM:(sy:Int)+M=(N:Int):=by
  have h1:=HN.out
  have h2:=HM.out
  unfold crN at h1
  omega
 have wr2:IntKind.i64.wrap ((sy:Int)+M)=(N:Int):=by rw [hM]; exact ZaK _ (by omega) (by omega)
 have HLv:=Lib.hid (fun q (hq:StoAt q b T room sy)=>leave_calls b T room sy N (by omega) q hq)
 have Hdr:Hid (StoAt w.drew b T room sy):=h
 rw [HN.out]
 have hmm:min (max keep 0) ((T.length:Int) - (sy:Int))=M:=HM.out
 clear h
 go_enter Tryz.func34,Tryz.ntmps34
 go_wp2
 go_region
 all_goals
  go_wp2_with fail
  refine (HLv.out _ Hdr.out).mono ?_
  rintro e w1 ⟨rfl,S1,K1⟩
  go_wp2
  go_end0
  exact ⟨rfl,S1,(Keeps.ofBelow (Below.drew br)).trans K1⟩
theorem strClone_calls (X:ByteArray) (w:World) (hx:X.size<=281474976710656):Calls Tryz.prog 85 #[.string X] w fun e w'=>e=.returned (.string X)/\Below w.heap.size w w':=by
 have HC:Hid (Calls Tryz.prog 126 #[.string X] w fun e w'=>e=.returned (.string X)/\Below w.heap.size w w'):=show Calls Tryz.prog 126 _ _ _ from AnyPu.stringslite_Clone laysClone X w hx
 go_enter Tryz.func85,Tryz.ntmps85
 go_wp2_with fail
 refine HC.out.mono ?_
 rintro e w1 ⟨rfl,hw1⟩
 go_wp2
 go_ret
 exact ⟨rfl,hw1⟩
theorem bytes_calls (b:Nat) (T:List UInt8) (room sy:Int) (hT:T.length<=8192) (w:World) (h:StoAt w b T room sy) :
  Calls Tryz.prog 53 #[.pointer (some ⟨b,0,none⟩)] w fun e w'=>e=.returned (.string ⟨T.toArray⟩)/\Below w.heap.size w w':=by
 obtain ⟨c0,c1,c2⟩:=h.cells
 have HC:=Lib.hid (strClone_calls ⟨T.toArray⟩ w (by rw [sz_arr]; omega))
 obtain ⟨X,HX⟩:=nm ((⟨T.toArray⟩:ByteArray))
 rw [HX.out] at c0 HC ⊢
 clear h
 go_enter Tryz.func53,Tryz.ntmps53
 go_wp2_with fail
 refine HC.out.mono ?_
 rintro e w1 ⟨rfl,hw1⟩
 go_wp2
 go_ret
 exact ⟨rfl,hw1⟩
def RecordsR (T:List UInt8) (w:World) (e:Ending) (w':World):Prop :=
 ∃ (ls:List Ln) (a:Option Addr) (c:Nat) (R:Nat->Rcm),Beg T ls/\(∀ j,j < ls.length->(R j).ln (lnAt ls j).b=lnAt ls j)/\Recs w' a ls.length c R (fun j=>(lnAt ls j).b)/\FreshR w a R ls.length/\e=.returned (.slice a ls.length c)
theorem records_calls (b:Nat) (T:List UInt8) (room sy:Int) (hT:T.length<=8192) (w:World) (h:StoAt w b T room sy) (hL:LD w) :
  Calls Tryz.prog 52 #[.pointer (some ⟨b,0,none⟩)] w fun e w'=>RecordsR T w e w'/\Below w.heap.size w w':=by
 obtain ⟨c0,c1,c2⟩:=h.cells
 have HC:=Lib.hid (right_calls ⟨T.toArray⟩ T w (Lib.hid rfl) (by rw [sz_arr]; omega) hL)
 obtain ⟨X,HX⟩:=nm ((⟨T.toArray⟩:ByteArray))
 rw [HX.out] at c0 HC
 clear h hL
 go_enter Tryz.func52,Tryz.ntmps52
 go_wp2_with fail
 refine HC.out.mono ?_
 rintro e w1 ⟨⟨ls,a,c,R,hB,hE,hR,hF,rfl⟩,hw1⟩
 go_wp2
 go_ret
 exact ⟨⟨ls,a,c,R,hB,hE,hR,hF,rfl⟩,hw1⟩
theorem repair_calls (b:Nat) (T:List UInt8) (room sy:Int) (hT:T.length<=8192) (w:World) (h:StoAt w b T room sy) (hL:LD w) :
  Calls Tryz.prog 50 #[.pointer (some ⟨b,0,none⟩)] w fun e w'=>∃ (ls:List Ln) (N:Nat),Beg T ls/\Hid ((flatLn ls).length=N)/\N<=T.length/\e=.returned (.int .i64 ((T.length:Int) - (N:Int)))/\StoAt w' b (T.take N) room N/\Keeps b w w':=by
 obtain ⟨c0,c1,c2⟩:=h.cells
 have HC:=Lib.hid (right_calls ⟨T.toArray⟩ T w (Lib.hid rfl) (by rw [sz_arr]; omega) hL)
 obtain ⟨X,HX⟩:=nm ((⟨T.toArray⟩:ByteArray))
 have hx:X.size=T.length:=by rw [← HX.out]; rfl
 have HSt:Hid (∀ q,Below w.heap.size w q->StoAt q b T room sy):=fun q hq=>h.below hq
 rw [HX.out] at c0 HC
 clear h hL
 go_enter Tryz.func50,Tryz.ntmps50
 go_wp2_with fail
 refine HC.out.mono ?_
 rintro e w1 ⟨⟨ls,a,c,R,hB,hE,hR,hF,rfl⟩,hw1⟩
 have S1:=HSt.out _ hw1
 obtain ⟨N,HN⟩:=nm ((flatLn ls).length)
 have hN:N<=T.length:=by rw [← HN.out]; exact hB.toBegTo.le
 have HLv:=Lib.hid (leave_calls b T room sy N hN w1 S1)
 obtain ⟨d0,d1,d2⟩:=S1.cells
 rw [HX.out] at d0
 rw [HN.out]
 have HB:=Lib.hid hB
 clear hB hE hR hF c0 c1 c2
 go_wp2_with fail
 refine HLv.out.mono ?_
 rintro e w2 ⟨rfl,S2,K2⟩
 go_wp2
 go_ret
 exact ⟨ls,N,HB.out,HN,hN,rfl,S2,(Keeps.ofBelow hw1).trans K2⟩
def AppR (l:Ln) (T:List UInt8) (room:Int) (E:Int) (T':List UInt8):Prop :=
 (¬ l.ok/\E=5/\T'=T)\/(l.ok/\room < ((T.length+l.text.length:Nat):Int)/\E=6/\T'=T)\/(l.ok/\((T.length+l.text.length:Nat):Int)<=room/\E=0/\T'=T ++ l.text)
theorem append_calls (b:Nat) (T:List UInt8) (room sy:Int) (hT:T.length<=8192) (x:Rcm) (D:List Int) (w:World) (h:StoAt w b T room sy) (hl:Lst w x.a x.n x.k D) (hr:0<=x.root) (hc:0<=x.chain) (hL:LD w) :
  Calls Tryz.prog 79 #[.pointer (some ⟨b,0,none⟩),x.val] w fun e w'=>∃ (E:Int) (T':List UInt8),AppR (x.ln D) T room E T'/\e=.returned (.int .i64 E)/\StoAt w' b T' room sy/\Keeps b w w':=by
 have hal:=(Below.refl w.heap.size w).alloc nr (.cells x.cells 111)
 have HPr:Hid (∀ q,Below w.heap.size w q->Calls Tryz.prog 80 #[x.val] q fun e w'=>PrintR (x.ln D) e/\Below q.heap.size q w'):=fun q hq=>print_calls x D q (hl.below hq nr) hr hc (hL.below hq nr)
 have HSt:Hid (∀ q,Below w.heap.size w q->StoAt q b T room sy):=fun q hq=>h.below hq
 generalize x.ln D=l at *
 clear hl hr hc hL h
 obtain ⟨xs,xa,xn,xk,xr,xroot,xchain⟩:=x
 simp only [Rcm.val,Rcm.cells] at *
 go_enter Tryz.func79,Tryz.ntmps79
 go_wp2_with fail
 refine (HPr.out _ hal).mono ?_
 rintro e w1 ⟨hp,hw1⟩
 have T1:=hal.trans (hw1.mono hal.size)
 have S1:=HSt.out _ T1
 rcases hp with ⟨hok,rfl⟩ | ⟨hno,rfl⟩
 rotate_left
 ·have HNo:=Lib.hid hno
  clear hno
  go_wp2
  go_ret
  exact ⟨5,T,.inl ⟨HNo.out,rfl,rfl⟩,rfl,S1,Keeps.ofBelow T1⟩
 have hsh:=hok.short
 have HOk:=Lib.hid hok
 obtain ⟨c0,c1,c2⟩:=S1.cells
 have f0:=World.rowIs.frozen S1 0
 obtain ⟨X,HX⟩:=nm ((⟨T.toArray⟩:ByteArray))
 have hx:X.size=T.length:=by rw [← HX.out]; rfl
 obtain ⟨Y,HY⟩:=nm ((⟨l.text.toArray⟩:ByteArray))
 obtain ⟨YN,HYN⟩:=nm (l.text.length)
 have hy:Y.size=YN:=by rw [← HY.out,← HYN.out]; rfl
 rw [HYN.out] at hsh
 rw [HX.out] at c0
 rw [HY.out]
 have wr1:IntKind.i64.wrap ((T.length:Int)+(YN:Int))=(T.length:Int)+(YN:Int):=ZaK _ (by omega) (by omega)
 have hcat:¬ 9223372036854775807 < X.size+Y.size:=by omega
 have hcat2:¬ 9223372036854775807 < T.length+YN:=by omega
 have HRes:Hid (Value.string (X ++ Y)=.string ⟨(T ++ l.text).toArray⟩):=by show _=_; rw [← HX.out,← HY.out,arr_cat2]
 have Hdr:Hid (StoAt w1.drew b T room sy):=S1
 by_cases hfull:room < (T.length:Int)+(YN:Int)
 ·clear hok S1
  go_wp2
  go_region
  all_goals
   go_wp2
   go_ret
   exact ⟨6,T,.inr (.inl ⟨HOk.out,by rw [HYN.out]; omega,rfl,rfl⟩),rfl,Hdr.out,Keeps.ofBelow (Below.drew T1)⟩
 ·have HS2:=Lib.hid (Hdr.out.setT (T ++ l.text))
  clear hok S1
  go_wp2
  go_region
  all_goals
   go_wp2
   go_ret
   rw [HRes.out]
   exact ⟨0,T ++ l.text,.inr (.inr ⟨HOk.out,by rw [HYN.out]; omega,rfl,rfl⟩),rfl,HS2.out,(Keeps.ofBelow (Below.drew T1)).trans (Keeps.set _ _ _ _)⟩
theorem Recs.nS {w:World} {a:Option Addr} {n c:Nat} {R:Nat->Rcm} {D:Nat->List Int} (h:Recs w a n c R D) {j:Nat} (hj:j < n):(R j).n=(D j).length:=by
 rcases h.2 with h0 | ⟨_,_,_,_,hc⟩
 ·omega
 ·exact (hc j hj).2.2.2.2.2.len.symm
theorem beg_exists (s:List UInt8):∃ ls,Beg s ls:=by
 have key:∀ k ls,BegTo s ls->100<=ls.length+k->∃ ms,Beg s ms:=by
  intro k
  induction k with
  | zero =>
    intro ls h hk
    refine ⟨ls,h,fun l hl hs=>?_⟩
    have:=(h.snoc hl hs).len
    rw [List.length_append,List.length_singleton] at this
    omega
  | succ k ih =>
    intro ls h hk
    by_cases hx:∃ l,IsLine (s.drop (flatLn ls).length) l/\l.s=(ls.length:Int)
    ·obtain ⟨l,h1,h2⟩:=hx
     exact ih _ (h.snoc h1 h2) (by rw [List.length_append,List.length_singleton]; omega)
    ·exact ⟨ls,h,fun l hl hs=>hx ⟨l,hl,hs⟩⟩
 exact key 100 [] (BegTo.nil s) (by simp)
section
open Go.ChangeShapes Go.WideShapes Go.ChangeAt Go.RowKit
theorem own:ownKnob Tryz.prog.godebug=none:=by kernel_rfl
end
section
open Go.ChangeShapes Go.WideShapes Go.ChangeAt Go.RowKit
theorem cellsOfWordS:Tryz.prog.cellsOf 48=1:=by kernel_rfl
theorem powData:(Rows.laid_internal_strconv_uint64pow10:DataW Unit)=Lib.tabData .u64 Lib.pow10Tab:=by kernel_rfl
theorem tPow:(Tryz.prog.globals[3]?).map (·.type)=some 196:=by kernel_rfl
theorem tSyn:(Tryz.prog.globals[4]?).map (·.type)=some 43:=by kernel_rfl
theorem tRng:(Tryz.prog.globals[5]?).map (·.type)=some 43:=by kernel_rfl
theorem namedErr (u : TypeId) (h : Tryz.prog.typeName? 3 u = some "*errors.errorString") : u = 254 :=
 typeName_ptr_named (nm := "errors.errorString") (by rw [show "*" ++ "errors.errorString" = "*errors.errorString" by decide]; kernel_rfl) (by kernel_rfl) (by decide) u (by rw [show "*" ++ "errors.errorString" = "*errors.errorString" by decide]; exact h)
theorem laid_ld {W : World} {r : List (String × DataW Unit)} (h : laidMet Tryz.prog (("math/bits.deBruijn32tab", Rows.laid_math_bits_deBruijn32tab) :: ("math/bits.deBruijn64tab", Rows.laid_math_bits_deBruijn64tab) :: ("internal/strconv.uint64pow10", Rows.laid_internal_strconv_uint64pow10) :: ("unicode/utf8.acceptRanges", Rows.laid_unicode_utf8_acceptRanges) :: ("strconv.ErrRange", Rows.laid_strconv_ErrRange) :: ("strconv.ErrSyntax", Rows.laid_strconv_ErrSyntax) :: r) W) (hs : W.ShapedOpen Tryz.prog) : LD W := by
 have h3:=h.tail.tail
 have h5:=h3.tail.tail
 have h6:=h5.tail
 rw [powData] at h3
 refine ⟨Lib.tabIs_of_head gPow tPow Tryz.underlying196 Tryz.underlying48 cellsOfWordS (by kernel_rfl) h3,?_,?_,laysCutM.s1_3 W hs⟩
 ·obtain ⟨a,s,hv,_⟩:=laid_sentinel h6 gSyn tSyn Tryz.underlying43 namedErr Tryz.underlying254 Tryz.underlying256 rfl rfl Tryz.underlying9 (by kernel_rfl) (by kernel_rfl)
  exact ⟨_,_,hv⟩
 ·obtain ⟨a,s,hv,_⟩:=laid_sentinel h5 gRng tRng Tryz.underlying43 namedErr Tryz.underlying254 Tryz.underlying256 rfl rfl Tryz.underlying9 (by kernel_rfl) (by kernel_rfl)
  exact ⟨_,_,hv⟩
theorem witness_zip {H:Type} {enc:TypeId × Value->H} {C:Checked} {os:Os} {f:FuncId} {fn:Func} {s:OpenSpec} {conds:List PathCond} {apart:Bool} {laid:List (String × DataW Unit)} (w0:World) (args:Array Value) (hos:w0.os=os)
  (hsh:(w0.forCall (fun _ _=>0) ⟨#[],args,[]⟩).Shaped C.prog)
  (hok:Input.okWideB C.prog (w0.forCall (fun _ _=>0) ⟨#[],args,[]⟩) f ⟨#[],args,[]⟩=true)
  (hrow:s.preRow enc C.prog fn conds apart laid (w0.forCall (fun _ _=>0) ⟨#[],args,[]⟩).memory args) :
  ∃ (w:World) (tape:Tape) (i:Input),w.os=os/\(w.forCall tape i).Shaped C.prog/\i.vars=[]/\Input.okWide C.prog (w.forCall tape i) .any w.heap.size f i ∧
   s.preRow enc C.prog fn conds apart laid (w.forCall tape i).memory i.args/\({}:Assume).holds C.prog (lone (Frame.enter C.prog f i.args .normal) [] (w.forCall tape i)) :=
 ⟨w0, fun _ _ => 0, ⟨#[], args, []⟩, hos, hsh, (Input.okWide_of_okWideB (base := 0) hok).1, (Input.okWide_of_okWideB hok).2, hrow, by
  simp only [Assume.holds]
  exact ⟨by simp,by simp,by simp,by simp,by simp⟩⟩
end
end Go.Proofs.YthmiojmlaclgaaaGreatDoor.Fx
