/- What the law stands on: StS StA StC StD. -/
import Derived.Test.YthmiojmlaclgaaaGreatDoorJ00
import Derived.Test.YthmiojmlaclgaaaGreatDoorJ12
import Derived.Maps.AppendAt
import Derived.Deep.AppendLies
import Derived.Deep.RegionHeld3
import Derived.BigRegion
import Derived.Deep.RegionWith
import Derived.Test.YthmiojmlaclgaaaGreatDoorJ04
import Derived.Test.YthmiojmlaclgaaaGreatDoorJ01
import Derived.Test.YthmiojmlaclgaaaGreatDoorJ05
set_option maxRecDepth 100000
set_option maxHeartbeats 12800000
namespace Go.Proofs.YthmiojmlaclgaaaGreatDoor.Fx
open Go.RowKit
section
def OwnX (T:TypeId) (base:Nat) (w:World) (v:Value) (vs:List Value):Prop:=w.ownsRow base T 1 v vs.length vs
theorem OwnX.nil (T:TypeId) (base:Nat) (w:World):OwnX T base w (.slice none 0 0) []:=World.ownsRow_nil _ _ _ _
theorem OwnX.below {T:TypeId} {base:Nat} {w w':World} {v:Value} {vs:List Value} (h:OwnX T base w v vs) (hb:Below w.heap.size w w'):OwnX T base w' v vs:=by
 refine ⟨h.1,?_⟩
 rcases h.2 with h0 | ⟨g,cap,cur,hv,hg,hh,r⟩
 ·exact .inl h0
 ·exact .inr ⟨g,cap,cur,hv,hg,by rw [hb.block g (Array.getElem?_eq_some_iff.1 hh).1]; exact hh,r⟩
theorem OwnX.mono {T:TypeId} {base b2:Nat} {w:World} {v:Value} {vs:List Value} (h:OwnX T base w v vs) (hb:b2<=base):OwnX T b2 w v vs :=
 ⟨h.1,h.2.imp id fun ⟨g,cap,cur,h1,h2,h3⟩=>⟨g,cap,cur,h1,Nat.le_trans hb h2,h3⟩⟩
theorem OwnX.congr {T:TypeId} {base:Nat} {w:World} {v:Value} {vs us:List Value} (h:OwnX T base w v vs) (e:vs=us):OwnX T base w v us:=e ▸ h
theorem OwnX.row {T:TypeId} {base:Nat} {w:World} {v:Value} {vs:List Value} (h:OwnX T base w v vs) (hn:0 < vs.length):∃ g c,v=.slice (some ⟨g,0,none⟩) vs.length c/\base<=g/\g < w.heap.size/\vs.length<=c/\∀ k u,vs[k]?=some u->w.cell? ⟨g,k,none⟩=some u:=by
 rcases h.2 with ⟨_,h0⟩ | ⟨g,cap,cur,rfl,hg,hh,hle,_,hsz,hcur⟩
 ·omega
 ·refine ⟨g,cap,rfl,hg,(Array.getElem?_eq_some_iff.1 hh).1,hle,fun k u hk=>?_⟩
  have hk2:=(List.getElem?_eq_some_iff.1 hk).1
  have h3:(cur.toList.take vs.length)[k]?=some u:=by
   rw [Nat.mul_one] at hcur
   rw [hcur]; exact hk
  rw [List.getElem?_take_of_lt hk2] at h3
  simpa [World.cell?,hh] using h3
theorem OwnX.lits (T:TypeId) (w:World) (xs:List Value) (hn:xs.length<=1000):OwnX T w.heap.size (w.alloc (.cells xs.toArray T)) (.slice (some ⟨w.heap.size,0,none⟩) xs.length xs.length) xs :=
 ⟨by simp,.inr ⟨w.heap.size,xs.length,_,rfl,nr,Go.Deep.blk_alloc_new _ _,nr,by unfold maxLen; omega,by simp,by simp⟩⟩
def sv (x:List UInt8):Value:=.string ⟨x.toArray⟩
theorem OwnX.strs {base:Nat} {w:World} {v:Value} {ws:List (List UInt8)} (h:OwnX 9 base w v (ws.map sv)) (hn:0 < ws.length):∃ g c,v=.slice (some ⟨g,0,none⟩) ws.length c/\base<=g/\LstS w (some ⟨g,0,none⟩) ws.length c ws:=by
 obtain ⟨g,c,e,hb,hg,hc,hr⟩:=h.row (by simpa using hn)
 rw [List.length_map] at e hc
 refine ⟨g,c,e,hb,rfl,hc,.inr ⟨g,0,rfl,hg,fun i hi=>?_⟩⟩
 rw [Nat.zero_add]
 refine hr i _ ?_
 rw [List.getElem?_map,List.getElem?_eq_getElem hi,List.getD_eq_getElem?_getD,List.getElem?_eq_getElem hi]
 rfl
theorem OwnX.ints {base:Nat} {w:World} {v:Value} {xs:List Int} (h:OwnX 3 base w v (xs.map (Value.int .i64))):∃ a c,v=.slice a xs.length c/\Lst w a xs.length c xs:=by
 unfold OwnX at h
 rw [List.length_map] at h
 exact Lst.owned h
theorem OwnX.intsB {base:Nat} {w:World} {v:Value} {xs:List Int} (h:OwnX 3 base w v (xs.map (Value.int .i64))):∃ a c,v=.slice a xs.length c/\Lst w a xs.length c xs/\∀ g o,a=some ⟨g,o,none⟩->base<=g:=by
 obtain ⟨a,c,e,l⟩:=h.ints
 refine ⟨a,c,e,l,fun g o ha=>?_⟩
 subst ha
 rcases h.2 with ⟨h0,_⟩ | ⟨g',cap,cur,hv,hg,_⟩
 ·rw [h0] at e; cases e
 ·rw [hv] at e
  injection e with e1
  simp only [Option.some.injEq,Addr.mk.injEq] at e1
  omega
section
variable {w' W0:World} {ops:Array Oper} {o:Oper} {a:Act} {Q:Exit->Act->World->Prop}
theorem run_append_x {TS T:TypeId} {z:Value} {bytes:Nat} (ht:Tryz.prog.underlying TS=some (.slice T)) (hinfo:(Tryz.prog.info? T).map (fun i=>(i.zero,i.size,i.bytes))=some (some z,1,bytes)) (hzc:z.cells.size=1) (hby:1<=bytes)
  (ty:TypeId) (base:Nat) (v:Value) (vs:List Value) (u:Value) (g:Nat) (hown:OwnX T base w' v vs) (hc:w'.cell? ⟨g,0,none⟩=some u) (hu:u.oneCell'=true) (hn:(vs.length+1) * bytes<=140737488355328) (hbase:base<=w'.heap.size) (hB:Below base W0 w') :
  ∃ v' w1,(Builtin.append_ #[TS,TS] ty #[v,.slice (some ⟨g,0,none⟩) 1 1]).run Tryz.prog w'=.ok v' w1/\OwnX T base w1 v' (vs ++ [u])/\Below base W0 w1/\w'.grownBy w1 v.ownBlock/\(v'.ownBlock=v.ownBlock\/v'.ownBlock=some w'.heap.size):=by
 obtain ⟨i0,hi,hz0,hz1,hz2⟩:=info_parts hinfo
 have hle:vs.length+1<=(vs.length+1) * bytes:=Nat.le_mul_of_pos_right _ hby
 obtain ⟨v',w1,hrun,h1,h2,_,h3⟩:=run_append_own_at (P:=Tryz.prog) w' base TS ty T i0 z 1 bytes ht hi hz0 hz1 hz2 hzc (by decide) v vs.length _ hown ⟨g,0,none⟩ 1 1 [u] rfl
  (by intro j x hj
      match j,hj with
      | 0,hj=>simp at hj; subst hj; simpa [Addr.add] using hc)
  (by intro x hx; simp at hx; subst hx; exact hu) (by unfold maxLen; omega) hn hbase
 refine ⟨v',w1,hrun,by unfold OwnX; rw [List.length_append]; exact h1,hB.grown h2 hbase ?_,h2,h3⟩
 intro k hk
 rcases hown.2 with ⟨rfl,_⟩ | ⟨g',cap,cur,rfl,hg,_⟩
 ·simp [Value.ownBlock] at hk
 ·simp [Value.ownBlock] at hk; omega
theorem ZaJ {rest:List Oper} {TS T:TypeId} {z:Value} {bytes:Nat} (ht:Tryz.prog.underlying TS=some (.slice T)) (hinfo:(Tryz.prog.info? T).map (fun i=>(i.zero,i.size,i.bytes))=some (some z,1,bytes)) (hzc:z.cells.size=1) (hby:1<=bytes)
  (hgd:o.guard=none) (s x:Operand) (ho:o.op=.call { callee:=.builtin .append,args:=#[s,x],argTypes:=#[TS,TS] })
  (base:Nat) (v:Value) (vs:List Value) (u:Value) (g:Nat) (W0:World) (hs:a.eval s=v) (hx:a.eval x=.slice (some ⟨g,0,none⟩) 1 1) (hown:OwnX T base w' v vs) (hc:w'.cell? ⟨g,0,none⟩=some u) (hu:u.oneCell'=true) (hn:(vs.length+1) * bytes<=140737488355328) (hbase:base<=w'.heap.size) (hB:Below base W0 w')
  (h:∀ v' w1,OwnX T base w1 v' (vs ++ [u])->Below base W0 w1->w'.grownBy w1 v.ownBlock->(v'.ownBlock=v.ownBlock\/v'.ownBlock=some w'.heap.size)->wpList Tryz.prog ops Q rest (a.put o.dst v') w1):wpList Tryz.prog ops Q (o :: rest) a w':=by
 obtain ⟨v',w1,hrun,h1,h2,h3,h4⟩:=run_append_x ht hinfo hzc hby o.type base v vs u g hown hc hu hn hbase hB
 refine wpList_plain hgd fun K hK=>?_
 unfold Oper.wp
 simp [execOp,ho,resolve,invoke,builtin,hs,hx,hrun,Result.andThen]
 exact hK _ _ (h v' w1 h1 h2 h3 h4)
theorem step_append_x {K:Act->World->Prop} {E:Prop} {TS T:TypeId} {z:Value} {bytes:Nat} (ht:Tryz.prog.underlying TS=some (.slice T)) (hinfo:(Tryz.prog.info? T).map (fun i=>(i.zero,i.size,i.bytes))=some (some z,1,bytes)) (hzc:z.cells.size=1) (hby:1<=bytes)
  (hgd:o.guard=none) (s x:Operand) (ho:o.op=.call { callee:=.builtin .append,args:=#[s,x],argTypes:=#[TS,TS] })
  (base:Nat) (v:Value) (vs:List Value) (u:Value) (g:Nat) (W0:World) (hs:a.eval s=v) (hx:a.eval x=.slice (some ⟨g,0,none⟩) 1 1) (hown:OwnX T base w' v vs) (hc:w'.cell? ⟨g,0,none⟩=some u) (hu:u.oneCell'=true) (hn:(vs.length+1) * bytes<=140737488355328) (hbase:base<=w'.heap.size) (hB:Below base W0 w')
  (h:∀ v' w1,OwnX T base w1 v' (vs ++ [u])->Below base W0 w1->w'.grownBy w1 v.ownBlock->(v'.ownBlock=v.ownBlock\/v'.ownBlock=some w'.heap.size)->K (a.put o.dst v') w1) :
  if Region.wanted o (yielded ops a.tmps)=true then Oper.wp Tryz.prog o a w' K Q else E:=by
 obtain ⟨v',w1,hrun,h1,h2,h3,h4⟩:=run_append_x ht hinfo hzc hby o.type base v vs u g hown hc hu hn hbase hB
 rw [if_pos (by unfold Region.wanted; rw [hgd])]
 unfold Oper.wp
 simp [execOp,ho,resolve,invoke,builtin,hs,hx,hrun,Result.andThen]
 exact h v' w1 h1 h2 h3 h4
end
theorem infoStr:(Tryz.prog.info? 9).map (fun i=>(i.zero,i.size,i.bytes))=some (some (.string ByteArray.empty),1,16):=by kernel_rfl
theorem infoIntX:(Tryz.prog.info? 3).map (fun i=>(i.zero,i.size,i.bytes))=some (some (.int .i64 0),1,8):=by kernel_rfl
theorem infoWordX:(Tryz.prog.info? 48).map (fun i=>(i.zero,i.size,i.bytes))=some (some (.int .u64 0),1,8):=by kernel_rfl
end
def Rcm.ln (x:Rcm) (D:List Int):Ln:=⟨x.s,x.r,x.root,x.chain,D⟩
theorem mem_getD {D:List Int} {z:Int} (h:z ∈ D):∃ j,j < D.length/\D.getD j 0=z:=by
 obtain ⟨j,hj,e⟩:=List.getElem_of_mem h
 exact ⟨j,hj,by rw [List.getD_eq_getElem?_getD,List.getElem?_eq_getElem hj,Option.getD_some,e]⟩
theorem getD_mem {D:List Int} {j:Nat} (h:j < D.length):D.getD j 0 ∈ D:=by
 rw [List.getD_eq_getElem?_getD,List.getElem?_eq_getElem h,Option.getD_some]; exact List.getElem_mem h
theorem box5 {w wr:World} {B:Nat} (v0 v1 v2 v3 v4:Value) (t:TypeId) (hb:Below B (w.alloc (.cells #[v0,v1,v2,v3,v4] t)) wr) (hB:w.heap.size < B):Box5 wr w.heap.size v0 v1 v2 v3 v4:=by
 have h:=Zao w v0 v1 v2 v3 v4 t
 exact Zam (h.of_block (hb.block _ hB))
def TF (b:Bool) (p:Prop):Prop:=b=true ↔ p
theorem TF.yes {p:Prop} (h:TF true p):p:=h.1 rfl
theorem TF.no {p:Prop} (h:TF false p):¬ p:=fun e=>by have:=h.2 e; cases this
theorem TF.t {p:Prop} (h:p):TF true p:=⟨fun _=>h,fun _=>rfl⟩
theorem TF.f {p:Prop} (h:¬ p):TF false p:=⟨fun e=>(by cases e),fun e=>absurd e h⟩
def IsB (e:Ending) (p:Prop):Prop:=∃ b:Bool,e=.returned (.bool b)/\TF b p
theorem IsB.t {p:Prop} {v:Value} (hv:v=.bool true) (h:p):IsB (.returned v) p:=⟨true,by rw [hv],TF.t h⟩
theorem IsB.f {p:Prop} {v:Value} (hv:v=.bool false) (h:¬ p):IsB (.returned v) p:=⟨false,by rw [hv],TF.f h⟩
theorem isPlace_calls (z:Int) (w:World):Calls Tryz.prog 170 #[.int .i64 z] w fun e w'=>IsB e (0<=z/\z<=99)/\w'=w:=by
 by_cases h1:0<=z
 ·by_cases h2:z < 100
  ·go_enter Tryz.func170,Tryz.ntmps170
   go_wp2
   go_ret
   exact ⟨IsB.t rfl (by omega),rfl⟩
  ·go_enter Tryz.func170,Tryz.ntmps170
   go_wp2
   go_ret
   exact ⟨IsB.f rfl (by omega),rfl⟩
 ·go_enter Tryz.func170,Tryz.ntmps170
  go_wp2
  go_ret
  exact ⟨IsB.f rfl (by omega),rfl⟩
theorem printable_calls (x:Rcm) (D:List Int) (w:World) (hl:Lst w x.a x.n x.k D) (hr:0<=x.root) (hc:0<=x.chain) :
  Calls Tryz.prog 120 #[x.val] w fun e w'=>IsB e (x.ln D).ok/\Below w.heap.size w w':=by
 obtain ⟨s,a,n,k,r,root,chain⟩:=x
 simp only [Rcm.val,Rcm.cells,Rcm.ln] at *
 have hal:=(Below.refl w.heap.size w).alloc nr (.cells #[.int .i64 s,.slice a n k,.int .i64 r,.int .u64 root,.int .u64 chain] 111)
 have hl1:=hl.below hal nr
 have HN:Hid (D.length=n):=hl.len
 clear hl
 go_enter Tryz.func120,Tryz.ntmps120
 go_wp2_with fail
 refine (isPlace_calls _ _).mono ?_
 rintro e w1 ⟨⟨b,rfl,H1⟩,hw1⟩
 replace hw1:=hw1.symm
 subst hw1
 cases b with
 | false =>
   go_wp2
   go_ret
   exact ⟨IsB.f rfl fun h=>H1.no h.s,hal⟩
 | true =>
   by_cases h2:r < 0
   ·go_wp2
    go_ret
    exact ⟨IsB.f rfl fun h=>by have:=h.r; dsimp only at this; omega,hal⟩
   ·by_cases h3:r > 2147483647
    ·go_wp2
     go_ret
     exact ⟨IsB.f rfl fun h=>by have:=h.r; dsimp only at this; omega,hal⟩
    ·by_cases h4:root ≥ 2305843009213693951
     ·go_wp2
      go_ret
      exact ⟨IsB.f rfl fun h=>by have:=h.root; dsimp only at this; omega,hal⟩
     ·by_cases h5:chain ≥ 2305843009213693951
      ·go_wp2
       go_ret
       exact ⟨IsB.f rfl fun h=>by have:=h.chain; dsimp only at this; omega,hal⟩
      ·by_cases h6:n > 8
       ·go_wp2
        go_ret
        exact ⟨IsB.f rfl fun h=>by have:=h.n; have:=HN.out; dsimp only at *; omega,hal⟩
       ·go_wp2
        generalize hW:w.alloc (.cells #[.int .i64 s,.slice a n k,.int .i64 r,.int .u64 root,.int .u64 chain] 111)=W at *
        clear hW
        go_loopw [36] (fun i wr=>∃ q:Nat,q<=n/\i=.int .i64 q/\Hid (∀ j,j < q->0<=D.getD j 0/\D.getD j 0<=99)/\wr=W) (fun i _=>n - (intOf i).toNat)
        case atStart=>exact ⟨0,Nat.zero_le _,rfl,fun j hj=>by omega,rfl⟩
        case round =>
         obtain ⟨q,hq,rfl,HG,hw⟩:=hrel
         replace hw:=hw.symm
         subst hw
         by_cases hlt:q < n
         ·obtain ⟨b1,o1,z,rfl,s1,c1,HX⟩:=hl1.at1 hlt
          go_wp2_with fail
          refine (isPlace_calls _ _).mono ?_
          rintro e w1 ⟨⟨b,rfl,H2⟩,hw1⟩
          replace hw1:=hw1.symm
          subst hw1
          cases b with
          | false =>
            go_wp2
            go_ret
            exact ⟨IsB.f rfl fun h=>H2.no (by rw [← HX.out]; exact h.b _ (getD_mem (by rw [HN.out]; exact hlt))),hal⟩
          | true =>
            go_wp2
            go_roundw
            case rel=>exact ⟨q+1,by omega,by go_num,fun j hj=>by
             by_cases e:j=q
             ·subst e; rw [HX.out]; exact H2.yes
             ·exact HG.out j (by omega),by trivial⟩
            case measure=>simp [intOf]; omega
         ·go_wp2
          go_ret
          refine ⟨IsB.t rfl ⟨H1.yes,⟨by dsimp only; omega,by dsimp only; omega⟩,⟨hr,by dsimp only; omega⟩,⟨hc,by dsimp only; omega⟩,by dsimp only; rw [HN.out]; omega,fun z hz=>?_⟩,hal⟩
          obtain ⟨j,hj,e⟩:=mem_getD hz
          rw [← e]
          exact HG.out j (by rw [HN.out] at hj; omega)
def inZ (n lo hi:Int):Bool:=decide (lo<=n) && decide (n<=hi)
theorem inZ_iff {n lo hi:Int}:inZ n lo hi=true ↔ lo<=n/\n<=hi:=by unfold inZ; simp
theorem Zar (n lo hi:Int) (w:World):Calls Tryz.prog 64 #[.int .i64 n,.int .i64 lo,.int .i64 hi] w fun e w'=>e=.returned (.bool (inZ n lo hi))/\w'=w:=by
 unfold inZ
 by_cases h1:lo<=n
 ·by_cases h2:n<=hi
  ·go_enter Tryz.func64,Tryz.ntmps64
   go_wp2
   go_ret
   exact ⟨Zai (by simp [h1,h2]),rfl⟩
  ·go_enter Tryz.func64,Tryz.ntmps64
   go_wp2
   go_ret
   exact ⟨Zai (by simp; omega),rfl⟩
 ·go_enter Tryz.func64,Tryz.ntmps64
  go_wp2
  go_ret
  exact ⟨Zai (by simp; omega),rfl⟩
def headOk (s r root chain:Int) (n:Nat):Prop:=(0<=s/\s<=99)/\(0<=r/\r<=2147483647)/\root < 2305843009213693951/\chain < 2305843009213693951/\n<=8
def LineTo (D:List Int) (s r root chain:Int) (n q:Nat) (b:Bool):Prop:=TF b (headOk s r root chain n/\∀ j,j < q->0<=D.getD j 0/\D.getD j 0<=99)
theorem LineTo.zero {D:List Int} {s r root chain:Int} {n:Nat} {b:Bool} (h:TF b (headOk s r root chain n)):LineTo D s r root chain n 0 b :=
 ⟨fun e=>⟨h.1 e,fun j hj=>by omega⟩,fun e=>h.2 e.1⟩
theorem LineTo.yes {D:List Int} {s r root chain:Int} {n q:Nat} {x:Int} (h:LineTo D s r root chain n q true) (hx:D.getD q 0=x) (hc:inZ x 0 99=true):LineTo D s r root chain n (q+1) true:=by
 refine TF.t ⟨(TF.yes h).1,fun j hj=>?_⟩
 by_cases e:j=q
 ·subst e; rw [hx]; exact inZ_iff.1 hc
 ·exact (TF.yes h).2 j (by omega)
theorem LineTo.no {D:List Int} {s r root chain:Int} {n q:Nat} {x:Int} (hx:D.getD q 0=x) (hc:inZ x 0 99=false):LineTo D s r root chain n (q+1) false:=by
 refine TF.f fun h=>?_
 have:=h.2 q (by omega)
 rw [hx,← inZ_iff,hc] at this
 cases this
theorem LineTo.stay {D:List Int} {s r root chain:Int} {n q:Nat} (h:LineTo D s r root chain n q false):LineTo D s r root chain n (q+1) false :=
 TF.f fun e=>TF.no h ⟨e.1,fun j hj=>e.2 j (by omega)⟩
theorem LineTo.all {D:List Int} {s r root chain:Int} {n q:Nat} {b:Bool} (h:LineTo D s r root chain n q b) (hD:D.length=n) (hq:q=n) (hr:0<=root) (hc:0<=chain):TF b (Ln.ok ⟨s,r,root,chain,D⟩):=by
 subst hq
 refine ⟨fun e=>?_,fun e=>h.2 ⟨⟨e.s,e.r,e.root.2,e.chain.2,by have:=e.n; dsimp only at this; omega⟩,fun j hj=>e.b _ (getD_mem (by dsimp only; omega))⟩⟩
 obtain ⟨⟨h1,h2,h3,h4,h5⟩,h6⟩:=h.1 e
 refine ⟨h1,h2,⟨hr,h3⟩,⟨hc,h4⟩,by dsimp only; omega,fun z hz=>?_⟩
 obtain ⟨j,hj,e⟩:=mem_getD hz
 rw [← e]
 exact h6 j (by dsimp only at hj; omega)
theorem lineWays (s r root chain:Int) (n:Nat) :
  inZ s 0 99=false\/(inZ s 0 99=true/\inZ r 0 2147483647=false)\/(inZ s 0 99=true/\inZ r 0 2147483647=true/\¬ root < 2305843009213693951)\/(inZ s 0 99=true/\inZ r 0 2147483647=true/\root < 2305843009213693951/\¬ chain < 2305843009213693951)\/(inZ s 0 99=true/\inZ r 0 2147483647=true/\root < 2305843009213693951/\chain < 2305843009213693951/\¬ n<=8)\/(inZ s 0 99=true/\inZ r 0 2147483647=true/\root < 2305843009213693951/\chain < 2305843009213693951/\n<=8):=by
 cases inZ s 0 99 <;> cases inZ r 0 2147483647 <;> simp
 omega
theorem head_no {s r root chain:Int} {n:Nat} (h:inZ s 0 99=false\/inZ r 0 2147483647=false\/¬ root < 2305843009213693951\/¬ chain < 2305843009213693951\/¬ n<=8):TF false (headOk s r root chain n):=by
 refine TF.f fun ⟨h1,h2,h3,h4,h5⟩=>?_
 rw [← inZ_iff] at h1 h2
 rw [h1,h2] at h
 simp at h
 omega
theorem head_yes {s r root chain:Int} {n:Nat} (h1:inZ s 0 99=true) (h2:inZ r 0 2147483647=true) (h3:root < 2305843009213693951) (h4:chain < 2305843009213693951) (h5:n<=8):TF true (headOk s r root chain n) :=
 TF.t ⟨inZ_iff.1 h1,inZ_iff.1 h2,h3,h4,h5⟩
theorem rline_calls (x:Rcm) (D:List Int) (w:World) (hl:Lst w x.a x.n x.k D) (hr:0<=x.root) (hc:0<=x.chain) (hn:x.n<=9223372036854775807) :
  Calls Tryz.prog 100 #[x.val] w fun e w'=>IsB e (x.ln D).ok/\Below w.heap.size w w':=by
 obtain ⟨s,a,n,k,r,root,chain⟩:=x
 simp only [Rcm.val,Rcm.cells,Rcm.ln] at *
 have hal:=(Below.refl w.heap.size w).alloc nr (.cells #[.int .i64 s,.slice a n k,.int .i64 r,.int .u64 root,.int .u64 chain] 111)
 have hl1:=hl.below hal nr
 have HN:Hid (D.length=n):=hl.len
 have HR:Hid (0<=root/\0<=chain):=⟨hr,hc⟩
 clear hl hr hc
 rcases lineWays s r root chain n with h | h | h | h | h | h
 ·have HB:TF false (headOk s r root chain n):=head_no (.inl h)
  go_enter Tryz.func100,Tryz.ntmps100
  go_wp2_with (go_at_call 64; refine (Zar _ _ _ _).mono ?_; rintro e w2 ⟨rfl,hw2⟩; replace hw2:=hw2.symm; subst hw2)
  have C1:=(box5 (.int .i64 s) (.slice a n k) (.int .i64 r) (.int .u64 root) (.int .u64 chain) 111 (Below.refl (w.heap.size+1) _) (Nat.lt_succ_self _)).c1
  generalize hW:w.alloc (.cells #[.int .i64 s,.slice a n k,.int .i64 r,.int .u64 root,.int .u64 chain] 111)=W at *
  clear hW
  go_loopw [3,4] (fun f i wr=>∃ (q:Nat) (b:Bool),q<=n/\f=.bool b/\i=.int .i64 q/\LineTo D s r root chain n q b/\wr=W) (fun _ i _=>n - (intOf i).toNat)
  case atStart=>exact ⟨0,false,Nat.zero_le _,(by first | rfl | rw [decide_eq_false (by omega)] | rw [decide_eq_true (by omega)]),rfl,LineTo.zero HB,rfl⟩
  case round =>
   obtain ⟨q,b,hq,rfl,rfl,HG,hw⟩:=hrel
   replace hw:=hw.symm
   subst hw
   by_cases hlt:q < n
   ·cases b with
    | false =>
      go_wp2
      go_roundw
      case rel=>exact ⟨q+1,false,by omega,by trivial,by go_num,HG.stay,by trivial⟩
      case measure=>simp [intOf]; omega
    | true =>
      obtain ⟨b1,o1,z,rfl,s1,c1,HX⟩:=hl1.at1 hlt
      cases hz:inZ z 0 99 with
      | false =>
        go_wp2_with (go_at_call 64; refine (Zar _ _ _ _).mono ?_; rintro e w2 ⟨rfl,hw2⟩; replace hw2:=hw2.symm; subst hw2)
        go_roundw
        case rel=>exact ⟨q+1,false,by omega,by trivial,by go_num,LineTo.no HX.out hz,by trivial⟩
        case measure=>simp [intOf]; omega
      | true =>
        go_wp2_with (go_at_call 64; refine (Zar _ _ _ _).mono ?_; rintro e w2 ⟨rfl,hw2⟩; replace hw2:=hw2.symm; subst hw2)
        go_roundw
        case rel=>exact ⟨q+1,true,by omega,by trivial,by go_num,LineTo.yes HG HX.out hz,by trivial⟩
        case measure=>simp [intOf]; omega
   ·obtain rfl:q=n:=by omega
    go_wp2
    go_ret
    exact ⟨⟨b,rfl,HG.all HN.out rfl HR.out.1 HR.out.2⟩,hal⟩
 ·obtain ⟨h1,h2⟩:=h
  have HB:TF false (headOk s r root chain n):=head_no (.inr (.inl h2))
  go_enter Tryz.func100,Tryz.ntmps100
  go_wp2_with (go_at_call 64; refine (Zar _ _ _ _).mono ?_; rintro e w2 ⟨rfl,hw2⟩; replace hw2:=hw2.symm; subst hw2)
  have C1:=(box5 (.int .i64 s) (.slice a n k) (.int .i64 r) (.int .u64 root) (.int .u64 chain) 111 (Below.refl (w.heap.size+1) _) (Nat.lt_succ_self _)).c1
  generalize hW:w.alloc (.cells #[.int .i64 s,.slice a n k,.int .i64 r,.int .u64 root,.int .u64 chain] 111)=W at *
  clear hW
  go_loopw [3,4] (fun f i wr=>∃ (q:Nat) (b:Bool),q<=n/\f=.bool b/\i=.int .i64 q/\LineTo D s r root chain n q b/\wr=W) (fun _ i _=>n - (intOf i).toNat)
  case atStart=>exact ⟨0,false,Nat.zero_le _,(by first | rfl | rw [decide_eq_false (by omega)] | rw [decide_eq_true (by omega)]),rfl,LineTo.zero HB,rfl⟩
  case round =>
   obtain ⟨q,b,hq,rfl,rfl,HG,hw⟩:=hrel
   replace hw:=hw.symm
   subst hw
   by_cases hlt:q < n
   ·cases b with
    | false =>
      go_wp2
      go_roundw
      case rel=>exact ⟨q+1,false,by omega,by trivial,by go_num,HG.stay,by trivial⟩
      case measure=>simp [intOf]; omega
    | true =>
      obtain ⟨b1,o1,z,rfl,s1,c1,HX⟩:=hl1.at1 hlt
      cases hz:inZ z 0 99 with
      | false =>
        go_wp2_with (go_at_call 64; refine (Zar _ _ _ _).mono ?_; rintro e w2 ⟨rfl,hw2⟩; replace hw2:=hw2.symm; subst hw2)
        go_roundw
        case rel=>exact ⟨q+1,false,by omega,by trivial,by go_num,LineTo.no HX.out hz,by trivial⟩
        case measure=>simp [intOf]; omega
      | true =>
        go_wp2_with (go_at_call 64; refine (Zar _ _ _ _).mono ?_; rintro e w2 ⟨rfl,hw2⟩; replace hw2:=hw2.symm; subst hw2)
        go_roundw
        case rel=>exact ⟨q+1,true,by omega,by trivial,by go_num,LineTo.yes HG HX.out hz,by trivial⟩
        case measure=>simp [intOf]; omega
   ·obtain rfl:q=n:=by omega
    go_wp2
    go_ret
    exact ⟨⟨b,rfl,HG.all HN.out rfl HR.out.1 HR.out.2⟩,hal⟩
 ·obtain ⟨h1,h2,h3⟩:=h
  have HB:TF false (headOk s r root chain n):=head_no (.inr (.inr (.inl h3)))
  go_enter Tryz.func100,Tryz.ntmps100
  go_wp2_with (go_at_call 64; refine (Zar _ _ _ _).mono ?_; rintro e w2 ⟨rfl,hw2⟩; replace hw2:=hw2.symm; subst hw2)
  have C1:=(box5 (.int .i64 s) (.slice a n k) (.int .i64 r) (.int .u64 root) (.int .u64 chain) 111 (Below.refl (w.heap.size+1) _) (Nat.lt_succ_self _)).c1
  generalize hW:w.alloc (.cells #[.int .i64 s,.slice a n k,.int .i64 r,.int .u64 root,.int .u64 chain] 111)=W at *
  clear hW
  go_loopw [3,4] (fun f i wr=>∃ (q:Nat) (b:Bool),q<=n/\f=.bool b/\i=.int .i64 q/\LineTo D s r root chain n q b/\wr=W) (fun _ i _=>n - (intOf i).toNat)
  case atStart=>exact ⟨0,false,Nat.zero_le _,(by first | rfl | rw [decide_eq_false (by omega)] | rw [decide_eq_true (by omega)]),rfl,LineTo.zero HB,rfl⟩
  case round =>
   obtain ⟨q,b,hq,rfl,rfl,HG,hw⟩:=hrel
   replace hw:=hw.symm
   subst hw
   by_cases hlt:q < n
   ·cases b with
    | false =>
      go_wp2
      go_roundw
      case rel=>exact ⟨q+1,false,by omega,by trivial,by go_num,HG.stay,by trivial⟩
      case measure=>simp [intOf]; omega
    | true =>
      obtain ⟨b1,o1,z,rfl,s1,c1,HX⟩:=hl1.at1 hlt
      cases hz:inZ z 0 99 with
      | false =>
        go_wp2_with (go_at_call 64; refine (Zar _ _ _ _).mono ?_; rintro e w2 ⟨rfl,hw2⟩; replace hw2:=hw2.symm; subst hw2)
        go_roundw
        case rel=>exact ⟨q+1,false,by omega,by trivial,by go_num,LineTo.no HX.out hz,by trivial⟩
        case measure=>simp [intOf]; omega
      | true =>
        go_wp2_with (go_at_call 64; refine (Zar _ _ _ _).mono ?_; rintro e w2 ⟨rfl,hw2⟩; replace hw2:=hw2.symm; subst hw2)
        go_roundw
        case rel=>exact ⟨q+1,true,by omega,by trivial,by go_num,LineTo.yes HG HX.out hz,by trivial⟩
        case measure=>simp [intOf]; omega
   ·obtain rfl:q=n:=by omega
    go_wp2
    go_ret
    exact ⟨⟨b,rfl,HG.all HN.out rfl HR.out.1 HR.out.2⟩,hal⟩
 ·obtain ⟨h1,h2,h3,h4⟩:=h
  have HB:TF false (headOk s r root chain n):=head_no (.inr (.inr (.inr (.inl h4))))
  go_enter Tryz.func100,Tryz.ntmps100
  go_wp2_with (go_at_call 64; refine (Zar _ _ _ _).mono ?_; rintro e w2 ⟨rfl,hw2⟩; replace hw2:=hw2.symm; subst hw2)
  have C1:=(box5 (.int .i64 s) (.slice a n k) (.int .i64 r) (.int .u64 root) (.int .u64 chain) 111 (Below.refl (w.heap.size+1) _) (Nat.lt_succ_self _)).c1
  generalize hW:w.alloc (.cells #[.int .i64 s,.slice a n k,.int .i64 r,.int .u64 root,.int .u64 chain] 111)=W at *
  clear hW
  go_loopw [3,4] (fun f i wr=>∃ (q:Nat) (b:Bool),q<=n/\f=.bool b/\i=.int .i64 q/\LineTo D s r root chain n q b/\wr=W) (fun _ i _=>n - (intOf i).toNat)
  case atStart=>exact ⟨0,false,Nat.zero_le _,(by first | rfl | rw [decide_eq_false (by omega)] | rw [decide_eq_true (by omega)]),rfl,LineTo.zero HB,rfl⟩
  case round =>
   obtain ⟨q,b,hq,rfl,rfl,HG,hw⟩:=hrel
   replace hw:=hw.symm
   subst hw
   by_cases hlt:q < n
   ·cases b with
    | false =>
      go_wp2
      go_roundw
      case rel=>exact ⟨q+1,false,by omega,by trivial,by go_num,HG.stay,by trivial⟩
      case measure=>simp [intOf]; omega
    | true =>
      obtain ⟨b1,o1,z,rfl,s1,c1,HX⟩:=hl1.at1 hlt
      cases hz:inZ z 0 99 with
      | false =>
        go_wp2_with (go_at_call 64; refine (Zar _ _ _ _).mono ?_; rintro e w2 ⟨rfl,hw2⟩; replace hw2:=hw2.symm; subst hw2)
        go_roundw
        case rel=>exact ⟨q+1,false,by omega,by trivial,by go_num,LineTo.no HX.out hz,by trivial⟩
        case measure=>simp [intOf]; omega
      | true =>
        go_wp2_with (go_at_call 64; refine (Zar _ _ _ _).mono ?_; rintro e w2 ⟨rfl,hw2⟩; replace hw2:=hw2.symm; subst hw2)
        go_roundw
        case rel=>exact ⟨q+1,true,by omega,by trivial,by go_num,LineTo.yes HG HX.out hz,by trivial⟩
        case measure=>simp [intOf]; omega
   ·obtain rfl:q=n:=by omega
    go_wp2
    go_ret
    exact ⟨⟨b,rfl,HG.all HN.out rfl HR.out.1 HR.out.2⟩,hal⟩
 ·obtain ⟨h1,h2,h3,h4,h5⟩:=h
  have HB:TF false (headOk s r root chain n):=head_no (.inr (.inr (.inr (.inr h5))))
  go_enter Tryz.func100,Tryz.ntmps100
  go_wp2_with (go_at_call 64; refine (Zar _ _ _ _).mono ?_; rintro e w2 ⟨rfl,hw2⟩; replace hw2:=hw2.symm; subst hw2)
  have C1:=(box5 (.int .i64 s) (.slice a n k) (.int .i64 r) (.int .u64 root) (.int .u64 chain) 111 (Below.refl (w.heap.size+1) _) (Nat.lt_succ_self _)).c1
  generalize hW:w.alloc (.cells #[.int .i64 s,.slice a n k,.int .i64 r,.int .u64 root,.int .u64 chain] 111)=W at *
  clear hW
  go_loopw [3,4] (fun f i wr=>∃ (q:Nat) (b:Bool),q<=n/\f=.bool b/\i=.int .i64 q/\LineTo D s r root chain n q b/\wr=W) (fun _ i _=>n - (intOf i).toNat)
  case atStart=>exact ⟨0,false,Nat.zero_le _,(by first | rfl | rw [decide_eq_false (by omega)] | rw [decide_eq_true (by omega)]),rfl,LineTo.zero HB,rfl⟩
  case round =>
   obtain ⟨q,b,hq,rfl,rfl,HG,hw⟩:=hrel
   replace hw:=hw.symm
   subst hw
   by_cases hlt:q < n
   ·cases b with
    | false =>
      go_wp2
      go_roundw
      case rel=>exact ⟨q+1,false,by omega,by trivial,by go_num,HG.stay,by trivial⟩
      case measure=>simp [intOf]; omega
    | true =>
      obtain ⟨b1,o1,z,rfl,s1,c1,HX⟩:=hl1.at1 hlt
      cases hz:inZ z 0 99 with
      | false =>
        go_wp2_with (go_at_call 64; refine (Zar _ _ _ _).mono ?_; rintro e w2 ⟨rfl,hw2⟩; replace hw2:=hw2.symm; subst hw2)
        go_roundw
        case rel=>exact ⟨q+1,false,by omega,by trivial,by go_num,LineTo.no HX.out hz,by trivial⟩
        case measure=>simp [intOf]; omega
      | true =>
        go_wp2_with (go_at_call 64; refine (Zar _ _ _ _).mono ?_; rintro e w2 ⟨rfl,hw2⟩; replace hw2:=hw2.symm; subst hw2)
        go_roundw
        case rel=>exact ⟨q+1,true,by omega,by trivial,by go_num,LineTo.yes HG HX.out hz,by trivial⟩
        case measure=>simp [intOf]; omega
   ·obtain rfl:q=n:=by omega
    go_wp2
    go_ret
    exact ⟨⟨b,rfl,HG.all HN.out rfl HR.out.1 HR.out.2⟩,hal⟩
 ·obtain ⟨h1,h2,h3,h4,h5⟩:=h
  have HB:TF true (headOk s r root chain n):=head_yes h1 h2 h3 h4 h5
  go_enter Tryz.func100,Tryz.ntmps100
  go_wp2_with (go_at_call 64; refine (Zar _ _ _ _).mono ?_; rintro e w2 ⟨rfl,hw2⟩; replace hw2:=hw2.symm; subst hw2)
  have C1:=(box5 (.int .i64 s) (.slice a n k) (.int .i64 r) (.int .u64 root) (.int .u64 chain) 111 (Below.refl (w.heap.size+1) _) (Nat.lt_succ_self _)).c1
  generalize hW:w.alloc (.cells #[.int .i64 s,.slice a n k,.int .i64 r,.int .u64 root,.int .u64 chain] 111)=W at *
  clear hW
  go_loopw [3,4] (fun f i wr=>∃ (q:Nat) (b:Bool),q<=n/\f=.bool b/\i=.int .i64 q/\LineTo D s r root chain n q b/\wr=W) (fun _ i _=>n - (intOf i).toNat)
  case atStart=>exact ⟨0,true,Nat.zero_le _,(by first | rfl | rw [decide_eq_false (by omega)] | rw [decide_eq_true (by omega)]),rfl,LineTo.zero HB,rfl⟩
  case round =>
   obtain ⟨q,b,hq,rfl,rfl,HG,hw⟩:=hrel
   replace hw:=hw.symm
   subst hw
   by_cases hlt:q < n
   ·cases b with
    | false =>
      go_wp2
      go_roundw
      case rel=>exact ⟨q+1,false,by omega,by trivial,by go_num,HG.stay,by trivial⟩
      case measure=>simp [intOf]; omega
    | true =>
      obtain ⟨b1,o1,z,rfl,s1,c1,HX⟩:=hl1.at1 hlt
      cases hz:inZ z 0 99 with
      | false =>
        go_wp2_with (go_at_call 64; refine (Zar _ _ _ _).mono ?_; rintro e w2 ⟨rfl,hw2⟩; replace hw2:=hw2.symm; subst hw2)
        go_roundw
        case rel=>exact ⟨q+1,false,by omega,by trivial,by go_num,LineTo.no HX.out hz,by trivial⟩
        case measure=>simp [intOf]; omega
      | true =>
        go_wp2_with (go_at_call 64; refine (Zar _ _ _ _).mono ?_; rintro e w2 ⟨rfl,hw2⟩; replace hw2:=hw2.symm; subst hw2)
        go_roundw
        case rel=>exact ⟨q+1,true,by omega,by trivial,by go_num,LineTo.yes HG HX.out hz,by trivial⟩
        case measure=>simp [intOf]; omega
   ·obtain rfl:q=n:=by omega
    go_wp2
    go_ret
    exact ⟨⟨b,rfl,HG.all HN.out rfl HR.out.1 HR.out.2⟩,hal⟩
theorem undrewS {w w1:World} (h:Below w.drew.heap.size w.drew w1):Below w.heap.size w w1:=(Below.drew (Below.refl w.heap.size w)).trans h
def PrintR (l:Ln) (e:Ending):Prop:=(l.ok/\e=.returned (.tuple #[.string ⟨l.text.toArray⟩,.int .i64 0]))\/(¬ l.ok/\e=.returned (.tuple #[.string ⟨#[]⟩,.int .i64 5]))
theorem Zcc (x:List UInt8) (c:UInt8):(⟨x.toArray⟩:ByteArray) ++ ⟨#[c]⟩=⟨(x ++ [c]).toArray⟩:=by
 apply ByteArray.ext
 simp
theorem sz_arr (x:List UInt8):(⟨x.toArray⟩:ByteArray).size=x.length:=rfl
theorem print_calls (x:Rcm) (D:List Int) (w:World) (hl:Lst w x.a x.n x.k D) (hr:0<=x.root) (hc:0<=x.chain) (hL:LD w) :
  Calls Tryz.prog 80 #[x.val] w fun e w'=>PrintR (x.ln D) e/\Below w.heap.size w w':=by
 have PC:=fun q (h:Below w.heap.size w q)=>printable_calls x D q (hl.below h nr) hr hc
 have HP:Hid (∀ q,Below w.heap.size w q->Calls Tryz.prog 120 #[x.val] q fun e w'=>IsB e (x.ln D).ok/\Below q.heap.size q w'):=PC
 clear PC
 obtain ⟨s,a,n,k,r,root,chain⟩:=x
 simp only [Rcm.val,Rcm.cells,Rcm.ln] at *
 have hal:=(Below.refl w.heap.size w).alloc nr (.cells #[.int .i64 s,.slice a n k,.int .i64 r,.int .u64 root,.int .u64 chain] 111)
 have HN:Hid (D.length=n):=hl.len
 go_enter Tryz.func80,Tryz.ntmps80
 go_wp2_with fail
 refine (HP.out _ hal).mono ?_
 rintro e w1 ⟨⟨b,rfl,H1⟩,hw1⟩
 have hb1:=hal.trans (hw1.mono hal.size)
 cases b with
 | false =>
   go_wp2
   go_ret2
   exact ⟨.inr ⟨H1.no,rfl⟩,hb1⟩
 | true =>
   have ok:=H1.yes
   have HK:Hid (Ln.ok ⟨s,r,root,chain,D⟩):=ok
   have s0:=ok.s.1
   have s1:=ok.s.2
   have r0:=ok.r.1
   have r1:=ok.r.2
   have t1:=ok.root.2
   have u1:=ok.chain.2
   have n1:=ok.n
   dsimp only at s0 s1 r0 r1 t1 u1 n1
   rw [HN.out] at n1
   have s2:s<=9223372036854775807:=by omega
   have r2:r<=9223372036854775807:=by omega
   have t2:root < 18446744073709551616:=by omega
   have u2:chain < 18446744073709551616:=by omega
   clear ok H1
   have KB:Hid (∀ q,Below w1.heap.size w1 q->Box5 q w.heap.size (.int .i64 s) (.slice a n k) (.int .i64 r) (.int .u64 root) (.int .u64 chain)):=fun q hq=>box5 _ _ _ _ _ 111 ((hw1.mono (by simp)).trans (hq.mono (Nat.le_trans (by simp) hw1.size))) (Nat.lt_succ_self _)
   have KS:Hid (∀ q,Below w1.heap.size w1 q->q.cell? ⟨w.heap.size,0,none⟩=some (.int .i64 s)/\q.cell? ⟨w.heap.size,2,none⟩=some (.int .i64 r)/\q.cell? ⟨w.heap.size,3,none⟩=some (.int .u64 root)/\q.cell? ⟨w.heap.size,4,none⟩=some (.int .u64 chain)):=fun q hq=>⟨(KB.out q hq).c0,(KB.out q hq).c2,(KB.out q hq).c3,(KB.out q hq).c4⟩
   have KL:Hid (∀ q,Below w1.heap.size w1 q->LD q):=fun q hq=>hL.below (hb1.trans (hq.mono hb1.size)) nr
   have hBd:Below w1.heap.size w1 w1.drew:=Below.drew br
   have S0:=KS.out _ hBd
   have L0:=KL.out _ hBd
   have l1:=hl.below hb1 nr
   clear hL hl HP
   go_wp2_with fail
   go_region_held3 (fun q=>q.cell? ⟨w.heap.size,0,none⟩=some (.int .i64 s)/\q.cell? ⟨w.heap.size,2,none⟩=some (.int .i64 r)/\q.cell? ⟨w.heap.size,3,none⟩=some (.int .u64 root)/\q.cell? ⟨w.heap.size,4,none⟩=some (.int .u64 chain)) (first | with_reducible exact S5 | with_reducible exact S4 | with_reducible exact S3 | with_reducible exact S2 | with_reducible exact S1 | with_reducible exact S0)
    (first | (go_at_call 102; refine (ZbS chain hc u2 _ L3).mono ?_; rintro e q4 ⟨rfl,hq4⟩; have T4:=T3.trans (hq4.mono T3.size); have S4:=KS.out _ T4; have T5:=T4.alloc T4.size (.cells #[.string ⟨(dg s).toArray⟩,.string ⟨(dg r).toArray⟩,.string ⟨(dg root).toArray⟩,.string ⟨(dg chain).toArray⟩] 9); have S5:=KS.out _ T5) | (go_at_call 102; refine (ZbS root hr t2 _ L2).mono ?_; rintro e q3 ⟨rfl,hq3⟩; have T3:=T2.trans (hq3.mono T2.size); have S3:=KS.out _ T3; have L3:=KL.out _ T3) | (go_at_call 28; refine (Zbz r r0 r2 _ L1).mono ?_; rintro e q2 ⟨rfl,hq2⟩; have T2:=T1.trans (hq2.mono T1.size); have S2:=KS.out _ T2; have L2:=KL.out _ T2) | (go_at_call 28; refine (Zbz s s0 s2 _ L0).mono ?_; rintro e q1 ⟨rfl,hq1⟩; have T1:=undrewS hq1; have S1:=KS.out _ T1; have L1:=KL.out _ T1))
   all_goals
    have O5:=(OwnX.lits 9 q4 [sv (dg s),sv (dg r),sv (dg root),sv (dg chain)] (by simp)).mono T4.size
    have C1:=(KB.out _ T5).c1
    have HV:Hid ([sv (dg s),sv (dg r),sv (dg root),sv (dg chain)]=([s,r,root,chain] ++ D.take 0).map fun z=>sv (dg z)):=rfl
    have O6:=O5.congr HV.out
    clear O5 HV S0 S1 S2 S3 S4 S5 L0 L1 L2 L3 hq1 hq2 hq3 hq4
    dsimp only [List.length_cons,List.length_nil,sv] at O6
    generalize hW5:q4.alloc (.cells #[.string ⟨(dg s).toArray⟩,.string ⟨(dg r).toArray⟩,.string ⟨(dg root).toArray⟩,.string ⟨(dg chain).toArray⟩] 9)=W5 at *
    clear hW5
    go_wp2
    go_loopw [4,26] (fun v i wr=>∃ q:Nat,q<=n/\i=.int .i64 q/\OwnX 9 w1.heap.size wr v (([s,r,root,chain] ++ D.take q).map fun z=>sv (dg z))/\Below w1.heap.size w1 wr) (fun _ i _=>n - (intOf i).toNat)
    case atStart=>exact ⟨0,Nat.zero_le _,rfl,O6,T5⟩
    case round =>
     obtain ⟨q,hq,rfl,OR,TR⟩:=hrel
     by_cases hlt:q < n
     ·obtain ⟨b1,o1,z,rfl,g1,c1,HX⟩:=l1.at1b TR nr hlt
      have hz:=HK.out.b z (by rw [← HX.out]; exact getD_mem (by dsimp only; rw [HN.out]; exact hlt))
      have z0:=hz.1
      have z1:z<=9223372036854775807:=by omega
      have LR:=KL.out _ TR
      have HT:Hid (([s,r,root,chain] ++ D.take q).map (fun z=>sv (dg z)) ++ [sv (dg z)]=([s,r,root,chain] ++ D.take (q+1)).map fun z=>sv (dg z)):=by
       show _=_
       have hqD:q < D.length:=by rw [HN.out]; exact hlt
       rw [List.take_add_one,List.getElem?_eq_getElem hqD,Option.toList_some,← List.append_assoc,List.map_append (l₂:=[D[q]]),← HX.out,List.getD_eq_getElem?_getD,List.getElem?_eq_getElem hqD]
       rfl
      clear hz
      go_wp2_with (first | (go_at_call 28; refine (Zbz z z0 z1 _ LR).mono ?_; rintro e q6 ⟨rfl,hq6⟩; have T7:=hq6.alloc hq6.size (.cells #[.string ⟨(dg z).toArray⟩] 9); have O7:=OR.below T7; have T8:=TR.trans (T7.mono TR.size)) | (at_builtin; refine ZaJ Tryz.underlying24 infoStr rfl (by decide) (by rfl) _ _ (by rfl) w1.heap.size _ _ (sv (dg z)) q6.heap.size w1 (by rfl) (by rfl) (by exact O7) (by exact Zaf _ _ _) (by rfl) (by simp; omega) (by exact T8.size) (by exact T8) ?_; intro v9 w9 O9 T9 _ _))
      go_roundw
      case rel=>exact ⟨q+1,by omega,by go_num,O9.congr HT.out,T9⟩
      case measure=>simp [intOf]; omega
     ·obtain rfl:q=n:=by omega
      have HT:Hid (([s,r,root,chain] ++ D.take q).map (fun z=>sv (dg z))=(Ln.words ⟨s,r,root,chain,D⟩).map sv):=by
       show _=_
       rw [← HN.out,List.take_length,Ln.words,Ln.nums,List.map_map]
       rfl
      obtain ⟨g,c,rfl,hg,LS⟩:=(OR.congr HT.out).strs (by rw [Ln.words_len]; omega)
      have hsh:=HK.out.short
      rw [Ln.text,List.length_append] at hsh
      have hwl:0 < (Ln.words ⟨s,r,root,chain,D⟩).length:=by rw [Ln.words_len]; omega
      have hwm:(Ln.words ⟨s,r,root,chain,D⟩).length<=140737488355328:=by rw [Ln.words_len]; dsimp only; rw [HN.out]; omega
      have hjl:(Lib.join (Ln.words ⟨s,r,root,chain,D⟩) [32]).length<=140737488355328:=by unfold Ln.line at hsh; omega
      have hcat:¬ 9223372036854775807 < (⟨(Lib.join (Ln.words ⟨s,r,root,chain,D⟩) [32]).toArray⟩:ByteArray).size+1:=by rw [sz_arr]; omega
      clear OR HT hsh
      generalize (Ln.words ⟨s,r,root,chain,D⟩).length=M at *
      go_wp2_with (go_at_call 121; refine (join_calls g 0 M c _ 32 _ LS hwl hjl hwm).mono ?_; rintro e q7 ⟨rfl,hq7⟩)
      go_ret2
      refine ⟨.inl ⟨HK.out,?_⟩,hb1.trans ((TR.trans (hq7.mono TR.size)).mono hb1.size)⟩
      show Ending.returned (.tuple #[.string (⟨(Lib.join (Ln.words ⟨s,r,root,chain,D⟩) [32]).toArray⟩ ++ ⟨#[10]⟩),.int .i64 0])=_
      rw [Zcc]
      rfl
def pv (ws:List (List UInt8)) (i:Nat):Int:=match Lib.parseUintB 64 (ws.getD i []) with
 | .ok u=>(u:Int)
 | _=>0
def WOk (ws:List (List UInt8)) (i:Nat):Prop:=∃ u:Nat,Lib.parseUintB 64 (ws.getD i [])=.ok u
theorem pv_of {ws:List (List UInt8)} {i u:Nat} (h:Lib.parseUintB 64 (ws.getD i [])=.ok u):pv ws i=(u:Int):=by unfold pv; rw [h]
theorem pv_range {ws:List (List UInt8)} {i:Nat}:0<=pv ws i/\pv ws i < 18446744073709551616:=by
 unfold pv
 cases h:Lib.parseUintB 64 (ws.getD i []) with
 | ok u=>have:=Lib.parseUintB_le h; simp only; omega
 | «syntax» => simp only; omega
 | range=>simp only; omega
def readLn (ws:List (List UInt8)):Ln:=⟨IntKind.i64.wrap (pv ws 0),IntKind.i64.wrap (pv ws 1),pv ws 2,pv ws 3,(List.range (ws.length - 4)).map fun i=>IntKind.i64.wrap (pv ws (4+i))⟩
def zeroR:Rcm:=⟨0,none,0,0,0,0,0⟩
def ReadR (ws:List (List UInt8)) (w:World) (e:Ending) (w':World):Prop :=
 (4<=ws.length/\(∀ i,i < ws.length->WOk ws i)/\∃ x:Rcm,x.ln (readLn ws).b=readLn ws/\e=.returned (.tuple #[x.val,.bool true])/\Lst w' x.a x.n x.k (readLn ws).b/\∀ bb oo,x.a=some ⟨bb,oo,none⟩->w.heap.size<=bb)\/((ws.length < 4\/∃ i,i < ws.length/\¬ WOk ws i)/\e=.returned (.tuple #[zeroR.val,.bool false]))
theorem fn5_set1 {w:World} {b t:Nat} {v0 v1 v2 v3 v4:Value} (h:w.rowIs b t 5 (fn5 v0 v1 v2 v3 v4)) (v:Value):(w.setCell ⟨b,1,none⟩ v).rowIs b t 5 (fn5 v0 v v2 v3 v4):=by
 refine (h.set 1 v).congr (fun i hi=>?_)
 rcases lt5 hi with rfl | rfl | rfl | rfl | rfl <;> rfl
theorem Zah {w:World} {b t:Nat} {v0 v1 v2 v3 v4:Value} (h:w.rowIs b t 5 (fn5 v0 v1 v2 v3 v4)):w.cell? ⟨b,0,none⟩=some v0/\w.cell? ⟨b,1,none⟩=some v1/\w.cell? ⟨b,2,none⟩=some v2/\w.cell? ⟨b,3,none⟩=some v3/\w.cell? ⟨b,4,none⟩=some v4 :=
 ⟨(Zam h).c0,(Zam h).c1,(Zam h).c2,(Zam h).c3,(Zam h).c4⟩
theorem alS {B:Nat} {W q:World} (h:Below B W q) (hB:B<=W.heap.size) {o:Obj}:Below B W (q.alloc o):=h.alloc (Nat.le_trans hB h.size) o
theorem setS {Bd:Nat} {W q:World} (h:Below Bd W q) {b i:Nat} (hb:Bd<=b) {v:Value}:Below Bd W (q.setCell ⟨b,i,none⟩ v):=h.setCell hb v
structure RdSt (w:World) (n:Nat) (ws:List (List UInt8)) (k:Nat) (wr:World):Prop where
 res:wr.rowIs w.heap.size 111 5 (fn5 (.int .i64 0) (.slice none 0 0) (.int .i64 0) (.int .u64 0) (.int .u64 0))
 nums:wr.rowIs (w.heap.size+1) 48 n (rowToW (pv ws) k)
 old:Below w.heap.size w wr
theorem RdSt.below {w wr w2:World} {n k:Nat} {ws:List (List UInt8)} (h:RdSt w n ws k wr) (hb:Below wr.heap.size wr w2):RdSt w n ws k w2 :=
 ⟨h.res.of_block (hb.block _ h.res.lt),h.nums.of_block (hb.block _ h.nums.lt),h.old.trans (hb.mono h.old.size)⟩
theorem RdSt.step {w wr:World} {n k:Nat} {ws:List (List UInt8)} {x:Int} (h:RdSt w n ws k wr) (hx:pv ws k=x):RdSt w n ws (k+1) (wr.setCell ⟨w.heap.size+1,k,none⟩ (.int .u64 x)):=by
 subst hx
 exact ⟨h.res.setOther (by simp) _,ZbX h.nums,h.old.setCell (Nat.le_succ _) _⟩
structure RdBt (w:World) (n:Nat) (ws:List (List UInt8)) (g:Nat) (s r root chain:Int) (v:Value) (q:Nat) (wr:World):Prop where
 st:RdSt w n ws n wr
 box:wr.rowIs g 111 5 (fn5 (.int .i64 s) v (.int .i64 r) (.int .u64 root) (.int .u64 chain))
 own:OwnX 3 (g+1) wr v (((List.range q).map fun i=>IntKind.i64.wrap (pv ws (4+i))).map (Value.int .i64))
 gt:w.heap.size+1 < g
theorem read_calls (a:Option Addr) (n c:Nat) (ws:List (List UInt8)) (w:World) (hl:LstS w a n c ws) (hn:n<=1000) (hw:∀ i,i < n->(ws.getD i []).length<=1000) (hL:LD w) :
  Calls Tryz.prog 174 #[.slice a n c] w fun e w'=>ReadR ws w e w'/\Below w.heap.size w w':=by
 have HN:Hid (ws.length=n):=hl.len
 have HW:Hid (∀ i,i < n->(ws.getD i []).length<=1000):=hw
 have hal:=(Below.refl w.heap.size w).alloc nr (.cells #[.int .i64 0,.slice none 0 0,.int .i64 0,.int .u64 0,.int .u64 0] 111)
 have R0:=Zao w (.int .i64 0) (.slice none 0 0) (.int .i64 0) (.int .u64 0) (.int .u64 0) 111
 clear hw
 by_cases h4:n < 4
 ·have f0:=R0.frozen 0
  go_enter Tryz.func174,Tryz.ntmps174
  go_wp2
  obtain ⟨e0,e1,e2,e3,e4⟩:=Zah R0
  exact bodyPost_ret (v:=.tuple #[.agg #[.int .i64 0,.slice none 0 0,.int .i64 0,.int .u64 0,.int .u64 0],.bool false]) (by simp [results,Tryz.results174,go_sem,e0,e1,e2,e3,e4]) rfl ⟨.inr ⟨.inl (by rw [HN.out]; exact h4),rfl⟩,hal⟩
 ·have hmk:=run_make_row' (P:=Tryz.prog) 144 48 (.int .u64 0) 8 Tryz.underlying144 infoWordX rfl .i64 .i64 n (by omega) (by omega)
  have R1:RdSt w n ws 0 ((w.alloc (.cells #[.int .i64 0,.slice none 0 0,.int .i64 0,.int .u64 0,.int .u64 0] 111)).alloc (.cells (madeCells #[.int .u64 0] n) 48)) :=
   ⟨R0.alloc _,ZbY (by have h:=World.rowIs_made (w.alloc (.cells #[.int .i64 0,.slice none 0 0,.int .i64 0,.int .u64 0,.int .u64 0] 111)) (.int .u64 0) n 48; simpa using h),hal.alloc (by simp) _⟩
  clear hal R0
  go_enter Tryz.func174,Tryz.ntmps174
  go_wp2
  go_loopw [21] (fun i wr=>∃ k:Nat,k<=n/\i=.int .i64 k/\Hid (∀ j,j < k->WOk ws j)/\RdSt w n ws k wr) (fun i _=>n - (intOf i).toNat)
  case atStart=>exact ⟨0,Nat.zero_le _,rfl,fun j hj=>by omega,by simpa using R1⟩
  case round =>
   obtain ⟨k,hk,rfl,HG,R⟩:=hrel
   by_cases hlt:k < n
   ·obtain ⟨b1,o1,rfl,g1,c1⟩:=hl.at1b R.old nr hlt
    have hx:=HW.out k hlt
    have LR:=hL.below R.old nr
    have HU:=Lib.hid (uint_calls (ws.getD k []) (by omega) wr LR)
    obtain ⟨X,HX⟩:=nm ((⟨(ws.getD k []).toArray⟩:ByteArray))
    rw [HX.out] at c1 HU
    go_wp2_with fail
    refine HU.out.mono ?_
    rintro e w2 ⟨hu,hw2⟩
    have R2:=R.below hw2
    rcases hu with ⟨u,hu1,hu2,rfl⟩ | ⟨hu1,v,t,p,rfl⟩
    ·have d3:=ZbE R2.nums hlt
     have z3:=R2.nums.frozen k
     have HS:=Lib.hid (R2.step (pv_of hu1))
     have HG2:Hid (∀ j,j < k+1->WOk ws j):=fun j hj=>by
      by_cases e:j=k
      ·subst e; exact ⟨u,hu1⟩
      ·exact HG.out j (by omega)
     clear hu1 hx
     go_wp2
     go_roundw
     case rel=>exact ⟨k+1,by omega,by go_num,HG2,HS.out⟩
     case measure=>simp [intOf]; omega
    ·have HE:Hid (∃ i,i < ws.length/\¬ WOk ws i):=⟨k,by rw [HN.out]; exact hlt,fun ⟨u,h⟩=>hu1 u h⟩
     clear hu1 hx
     obtain ⟨d0,d1,d2,d3,d4⟩:=Zah R2.res
     have f0:=R2.res.frozen 0
     have f1:=R2.res.frozen 1
     have f2:=R2.res.frozen 2
     have f3:=R2.res.frozen 3
     have f4:=R2.res.frozen 4
     go_wp2
     have R3:=ZaN R2.res (.int .i64 0) (.slice none 0 0) (.int .i64 0) (.int .u64 0) (.int .u64 0)
     obtain ⟨e0,e1,e2,e3,e4⟩:=Zah R3
     exact bodyPost_ret (v:=.tuple #[.agg #[.int .i64 0,.slice none 0 0,.int .i64 0,.int .u64 0,.int .u64 0],.bool false]) (by simp [results,Tryz.results174,go_sem,e0,e1,e2,e3,e4]) rfl ⟨.inr ⟨.inr HE.out,rfl⟩,Zan R2.old nr _ _ _ _ _⟩
   ·obtain rfl:k=n:=by omega
    have LW:=rowToW_lst R.nums
    obtain ⟨p0,HP0⟩:=nm (pv ws 0)
    obtain ⟨p1,HP1⟩:=nm (pv ws 1)
    obtain ⟨p2,HP2⟩:=nm (pv ws 2)
    obtain ⟨p3,HP3⟩:=nm (pv ws 3)
    have c0:wr.cell? ⟨w.heap.size+1,0,none⟩=some (.int .u64 p0):=by rw [R.nums.cell (by omega),rowToW,if_pos (by omega),HP0.out]
    have c1:wr.cell? ⟨w.heap.size+1,1,none⟩=some (.int .u64 p1):=by rw [R.nums.cell (by omega),rowToW,if_pos (by omega),HP1.out]
    have c2:wr.cell? ⟨w.heap.size+1,2,none⟩=some (.int .u64 p2):=by rw [R.nums.cell (by omega),rowToW,if_pos (by omega),HP2.out]
    have c3:wr.cell? ⟨w.heap.size+1,3,none⟩=some (.int .u64 p3):=by rw [R.nums.cell (by omega),rowToW,if_pos (by omega),HP3.out]
    have m0:0 < k:=by omega
    obtain ⟨P0,HQ0⟩:=nm (IntKind.i64.wrap p0)
    obtain ⟨P1,HQ1⟩:=nm (IntKind.i64.wrap p1)
    have y0:IntKind.i64.wrap p0=P0:=HQ0.out
    have y1:IntKind.i64.wrap p1=P1:=HQ1.out
    have y2:wrap64 p0=P0:=by rw [← HQ0.out,IntKind.wrap_i64,wrap64]
    have y3:wrap64 p1=P1:=by rw [← HQ1.out,IntKind.wrap_i64,wrap64]
    have n0:(0:Int) < (k:Int):=by omega
    have n1:(1:Int) < (k:Int):=by omega
    have n2:(2:Int) < (k:Int):=by omega
    have n3:(3:Int) < (k:Int):=by omega
    have T0:Below wr.heap.size wr wr:=br
    have hle:wr.heap.size<=wr.heap.size:=nr
    have KS:Hid (∀ q,Below wr.heap.size wr q->q.cell? ⟨w.heap.size+1,0,none⟩=some (.int .u64 p0)/\q.cell? ⟨w.heap.size+1,1,none⟩=some (.int .u64 p1)/\q.cell? ⟨w.heap.size+1,2,none⟩=some (.int .u64 p2)/\q.cell? ⟨w.heap.size+1,3,none⟩=some (.int .u64 p3)):=fun q hq=>⟨(hq.cell (p:=⟨w.heap.size+1,0,none⟩) R.nums.lt).trans c0,(hq.cell (p:=⟨w.heap.size+1,1,none⟩) R.nums.lt).trans c1,(hq.cell (p:=⟨w.heap.size+1,2,none⟩) R.nums.lt).trans c2,(hq.cell (p:=⟨w.heap.size+1,3,none⟩) R.nums.lt).trans c3⟩
    clear c0 c1 c2 c3
    go_wp2
    go_region_held3 (fun q=>q.cell? ⟨w.heap.size+1,0,none⟩=some (.int .u64 p0)/\q.cell? ⟨w.heap.size+1,1,none⟩=some (.int .u64 p1)/\q.cell? ⟨w.heap.size+1,2,none⟩=some (.int .u64 p2)/\q.cell? ⟨w.heap.size+1,3,none⟩=some (.int .u64 p3)) ((with_reducible refine KS.out _ ?_; iterate 12 (first | done | with_reducible exact T0 | with_reducible refine Below.drew ?_ | with_reducible refine alS ?_ hle | (with_reducible refine setS ?_ ?_; rotate_left; omega)))) (fail)
    have TW:Below wr.heap.size wr (wr.alloc (.cells #[.int .i64 P0,.slice none 0 0,.int .i64 P1,.int .u64 p2,.int .u64 p3] 111)).drew:=Below.drew (T0.alloc hle _)
    have RB:RdBt w k ws wr.heap.size P0 P1 p2 p3 (.slice none 0 0) 0 (wr.alloc (.cells #[.int .i64 P0,.slice none 0 0,.int .i64 P1,.int .u64 p2,.int .u64 p3] 111)).drew :=
     ⟨R.below TW,Zao wr (.int .i64 P0) (.slice none 0 0) (.int .i64 P1) (.int .u64 p2) (.int .u64 p3) 111,OwnX.nil _ _ _,R.nums.lt⟩
    generalize hWn:(wr.alloc (.cells #[.int .i64 P0,.slice none 0 0,.int .i64 P1,.int .u64 p2,.int .u64 p3] 111)).drew=Wn at *
    clear hWn T0 hle KS y0 y1 y2 y3 m0 n0 n1 n2 n3 R TW
    generalize hg9:wr.heap.size=g9 at *
    clear hg9
    obtain ⟨m,hk4⟩:∃ m,k - 4=m:=⟨_,rfl⟩
    have HM:Hid (k=m+4):=by show _=_; omega
    have HF:Hid (∀ v q,RdBt w k ws g9 P0 P1 p2 p3 v m q->∃ a c,v=.slice a m c/\Lst q a m c (readLn ws).b/\∀ bb oo,a=some ⟨bb,oo,none⟩->g9 < bb):=fun v q h=>by
     obtain ⟨a,c,e,l,hb9⟩:=h.own.intsB
     have hb:(readLn ws).b=(List.range m).map fun i=>IntKind.i64.wrap (pv ws (4+i)):=by
      show (List.range (ws.length - 4)).map _=_
      rw [HN.out,hk4]
     rw [List.length_map,List.length_range] at e l
     exact ⟨a,c,e,by rw [hb]; exact l,hb9⟩
    by_cases hm:m=0
    ·obtain rfl:m=0:=hm
     have hm2:k=4:=by have:=HM.out; omega
     subst hm2
     go_wp2
     go_loopw [57] (fun i wr=>∃ (q:Nat) (v:Value),q<=0/\i=.int .i64 q/\RdBt w 4 ws g9 P0 P1 p2 p3 v q wr) (fun i _=>0 - (intOf i).toNat)
     case atStart=>exact ⟨0,_,Nat.zero_le _,rfl,RB⟩
     case round =>
      obtain ⟨q,v,hq,rfl,R⟩:=hrel
      obtain rfl:q=0:=by omega
      obtain ⟨av,cv,rfl,LB,LBb⟩:=HF.out _ _ R
      have HLB:=Lib.hid LBb
      clear LBb
      have hgt:=R.gt
      obtain ⟨d0,d1,d2,d3,d4⟩:=Zah R.box
      obtain ⟨x0,x1,x2,x3,x4⟩:=Zah R.st.res
      have f0:=R.st.res.frozen 0
      have f1:=R.st.res.frozen 1
      have f2:=R.st.res.frozen 2
      have f3:=R.st.res.frozen 3
      have f4:=R.st.res.frozen 4
      go_wp2
      have R3:=ZaN R.st.res (.int .i64 P0) (.slice av 0 cv) (.int .i64 P1) (.int .u64 p2) (.int .u64 p3)
      obtain ⟨e0,e1,e2,e3,e4⟩:=Zah R3
      have LB2:Lst (((((wr.setCell ⟨w.heap.size,0,none⟩ (.int .i64 P0)).setCell ⟨w.heap.size,1,none⟩ (.slice av 0 cv)).setCell ⟨w.heap.size,2,none⟩ (.int .i64 P1)).setCell ⟨w.heap.size,3,none⟩ (.int .u64 p2)).setCell ⟨w.heap.size,4,none⟩ (.int .u64 p3)) av 0 cv (readLn ws).b:=by
       obtain ⟨l1,l2,l3⟩:=LB
       refine ⟨l1,l2,l3.imp id ?_⟩
       rintro ⟨bb,oo,rfl,hs,hc⟩
       refine ⟨bb,oo,rfl,by simpa only [World.size_setCell] using hs,fun i hi=>?_⟩
       have hne:bb ≠ w.heap.size:=by have:=HLB.out bb oo rfl; omega
       have hne2:∀ o,(⟨w.heap.size,o,none⟩:Addr) ≠ ⟨bb,oo+i,none⟩:=fun o e=>by injection e with e; exact hne e.symm
       rw [World.cell?_setCell_other _ _ _ _ (hne2 _),World.cell?_setCell_other _ _ _ _ (hne2 _),World.cell?_setCell_other _ _ _ _ (hne2 _),World.cell?_setCell_other _ _ _ _ (hne2 _),World.cell?_setCell_other _ _ _ _ (hne2 _)]
       exact hc i hi
      refine bodyPost_ret (v:=.tuple #[.agg #[.int .i64 P0,.slice av 0 cv,.int .i64 P1,.int .u64 p2,.int .u64 p3],.bool true]) (by simp [results,Tryz.results174,go_sem,e0,e1,e2,e3,e4]) rfl ⟨.inl ⟨by rw [HN.out]; have:=HM.out; omega,fun i hi=>HG.out i (by rw [HN.out] at hi; exact hi),⟨P0,av,0,cv,P1,p2,p3⟩,?_,rfl,LB2,fun bb oo e=>by have:=HLB.out bb oo e; omega⟩,Zan R.st.old nr _ _ _ _ _⟩
      simp only [Rcm.ln,readLn,HP0.out,HP1.out,HP2.out,HP3.out,HQ0.out,HQ1.out]
    ·have hm1:(4:Int)<=(k:Int):=by omega
     have hm2:¬ k=4:=by omega
     go_wp2
     go_loopw [57] (fun i wr=>∃ (q:Nat) (v:Value),q<=m/\i=.int .i64 q/\RdBt w k ws g9 P0 P1 p2 p3 v q wr) (fun i _=>m - (intOf i).toNat)
     case atStart=>exact ⟨0,_,Nat.zero_le _,rfl,RB⟩
     case round =>
      obtain ⟨q,v,hq,rfl,R⟩:=hrel
      by_cases hlt:q < m
      ·obtain ⟨z,HZ⟩:=nm (pv ws (4+q))
       obtain ⟨Z,HZZ⟩:=nm (IntKind.i64.wrap z)
       have c1:wr.cell? ⟨w.heap.size+1,4+q,none⟩=some (.int .u64 z):=by rw [R.st.nums.cell (by have:=HM.out; omega),rowToW,if_pos (by have:=HM.out; omega),HZ.out]
       have y0:IntKind.i64.wrap z=Z:=HZZ.out
       have y1:wrap64 z=Z:=by rw [← HZZ.out,IntKind.wrap_i64,wrap64]
       obtain ⟨d0,d1,d2,d3,d4⟩:=Zah R.box
       have hal:Below wr.heap.size wr (wr.alloc (.cells #[.int .i64 Z] 3)):=br.alloc nr _
       have O1:=R.own.below hal
       have hBs:g9+1<=(wr.alloc (.cells #[.int .i64 Z] 3)).heap.size:=Nat.le_trans R.box.lt hal.size
       have hB1:Below (g9+1) wr (wr.alloc (.cells #[.int .i64 Z] 3)):=hal.mono R.box.lt
       have HR:Hid (((List.range q).map fun i=>IntKind.i64.wrap (pv ws (4+i))).map (Value.int .i64) ++ [.int .i64 Z]=((List.range (q+1)).map fun i=>IntKind.i64.wrap (pv ws (4+i))).map (Value.int .i64)):=by
        show _=_
        rw [List.range_succ,List.map_append,List.map_append,List.map_singleton,List.map_singleton,HZ.out,HZZ.out]
       have HL:Hid (((List.range q).map fun i=>IntKind.i64.wrap (pv ws (4+i))).map (Value.int .i64)=((List.range q).map fun i=>IntKind.i64.wrap (pv ws (4+i))).map (Value.int .i64)):=rfl
       generalize hVS:((List.range q).map fun i=>IntKind.i64.wrap (pv ws (4+i))).map (Value.int .i64)=VS at *
       have hvl:VS.length=q:=by rw [← hVS]; simp
       have HVS:=Lib.hid hVS
       clear hVS HL
       go_wp2_with (at_builtin; refine ZaJ Tryz.underlying66 infoIntX rfl (by decide) (by rfl) _ _ (by rfl) (g9+1) _ VS (.int .i64 Z) wr.heap.size wr (by rfl) (by rfl) (by exact O1) (by exact Zaf _ _ _) (by rfl) (by rw [hvl]; omega) (by exact hBs) (by exact hB1) ?_; intro v9 w9 O9 T9 _ _; obtain ⟨a9,c9,hv9,_⟩:=(O9.congr HR.out).ints; rw [List.length_map,List.length_range] at hv9; subst hv9; have d9:=(Zah (R.box.of_block (T9.block _ (Nat.lt_succ_self _)))).2.1; have f9:=(R.box.of_block (T9.block _ (Nat.lt_succ_self _))).frozen 1)
       go_roundw
       case rel =>
        have hgt:=R.gt
        refine ⟨q+1,.slice a9 (q+1) c9,by omega,by go_num,⟨⟨?_,?_,?_⟩,?_,?_,R.gt⟩⟩
        ·exact (R.st.res.of_block (T9.block _ (by omega))).setOther (by simp; omega) _
        ·exact (R.st.nums.of_block (T9.block _ (by omega))).setOther (by simp; omega) _
        ·exact (R.st.old.trans (T9.mono (by omega))).setCell (show w.heap.size<=g9 by omega) _
        ·exact fn5_set1 (R.box.of_block (T9.block _ (Nat.lt_succ_self _))) _
        ·exact ownsRow_setCell_below (O9.congr HR.out) (Nat.lt_succ_self _) _
       case measure=>simp [intOf]; omega
      ·obtain rfl:q=m:=by omega
       obtain ⟨av,cv,rfl,LB,LBb⟩:=HF.out _ _ R
       have HLB:=Lib.hid LBb
       clear LBb
       have hgt:=R.gt
       obtain ⟨d0,d1,d2,d3,d4⟩:=Zah R.box
       obtain ⟨x0,x1,x2,x3,x4⟩:=Zah R.st.res
       have f0:=R.st.res.frozen 0
       have f1:=R.st.res.frozen 1
       have f2:=R.st.res.frozen 2
       have f3:=R.st.res.frozen 3
       have f4:=R.st.res.frozen 4
       go_wp2
       have R3:=ZaN R.st.res (.int .i64 P0) (.slice av q cv) (.int .i64 P1) (.int .u64 p2) (.int .u64 p3)
       obtain ⟨e0,e1,e2,e3,e4⟩:=Zah R3
       have LB2:Lst (((((wr.setCell ⟨w.heap.size,0,none⟩ (.int .i64 P0)).setCell ⟨w.heap.size,1,none⟩ (.slice av q cv)).setCell ⟨w.heap.size,2,none⟩ (.int .i64 P1)).setCell ⟨w.heap.size,3,none⟩ (.int .u64 p2)).setCell ⟨w.heap.size,4,none⟩ (.int .u64 p3)) av q cv (readLn ws).b:=by
        obtain ⟨l1,l2,l3⟩:=LB
        refine ⟨l1,l2,l3.imp id ?_⟩
        rintro ⟨bb,oo,rfl,hs,hc⟩
        refine ⟨bb,oo,rfl,by simpa only [World.size_setCell] using hs,fun i hi=>?_⟩
        have hne:bb ≠ w.heap.size:=by have:=HLB.out bb oo rfl; omega
        have hne2:∀ o,(⟨w.heap.size,o,none⟩:Addr) ≠ ⟨bb,oo+i,none⟩:=fun o e=>by injection e with e; exact hne e.symm
        rw [World.cell?_setCell_other _ _ _ _ (hne2 _),World.cell?_setCell_other _ _ _ _ (hne2 _),World.cell?_setCell_other _ _ _ _ (hne2 _),World.cell?_setCell_other _ _ _ _ (hne2 _),World.cell?_setCell_other _ _ _ _ (hne2 _)]
        exact hc i hi
       refine bodyPost_ret (v:=.tuple #[.agg #[.int .i64 P0,.slice av q cv,.int .i64 P1,.int .u64 p2,.int .u64 p3],.bool true]) (by simp [results,Tryz.results174,go_sem,e0,e1,e2,e3,e4]) rfl ⟨.inl ⟨by rw [HN.out]; have:=HM.out; omega,fun i hi=>HG.out i (by rw [HN.out] at hi; exact hi),⟨P0,av,q,cv,P1,p2,p3⟩,?_,rfl,LB2,fun bb oo e=>by have:=HLB.out bb oo e; omega⟩,Zan R.st.old nr _ _ _ _ _⟩
       simp only [Rcm.ln,readLn,HP0.out,HP1.out,HP2.out,HP3.out,HQ0.out,HQ1.out]
end Go.Proofs.YthmiojmlaclgaaaGreatDoor.Fx
