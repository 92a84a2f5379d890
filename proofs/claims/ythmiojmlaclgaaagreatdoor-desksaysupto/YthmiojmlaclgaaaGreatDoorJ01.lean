/- What the law stands on: FixWalks VecA VecB Apps Draws DrawA DrawB VecC VecD. -/
import Derived.Test.YthmiojmlaclgaaaGreatDoorJ00
import Derived.Test.YthmiojmlaclgaaaGreatDoorRows
import Derived.WalkKit
import Derived.Deep.QuietTactic
import Derived.BigQuiet
import Derived.BigRegion
import Derived.Deep.RegionWith
import Derived.Deep.AppendLies
import Derived.Deep.RegionHeld3
import Derived.RegionTactic
set_option maxRecDepth 100000
set_option maxHeartbeats 12800000
namespace Go.Proofs.YthmiojmlaclgaaaGreatDoor.Fx
open Go.RowKit
theorem Zad {k:IntKind} {a b:Int} (h:a=b):Ending.returned (.int k a)=.returned (.int k b):=by rw [h]
theorem Zai {a b:Bool} (h:a=b):Ending.returned (.bool a)=.returned (.bool b):=by rw [h]
theorem Zbp (n:Int) (w:World):Calls Tryz.prog 195 #[.int .i64 n] w fun e w'=>e=.returned (.int .i64 (clampI n))/\w'=w:=by
 by_cases h0:n < -2147483647
 ·go_enter Tryz.func195,Tryz.ntmps195
  go_wp2
  go_ret
  exact ⟨Zad (by unfold clampI; rw [if_pos (by omega)]),rfl⟩
 ·by_cases h1:2147483647 < n
  ·go_enter Tryz.func195,Tryz.ntmps195
   go_wp2
   go_ret
   exact ⟨Zad (by unfold clampI; rw [if_neg (by omega),if_pos h1]),rfl⟩
  ·go_enter Tryz.func195,Tryz.ntmps195
   go_wp2
   go_ret
   exact ⟨Zad (by unfold clampI; rw [if_neg (by omega),if_neg (by omega)]),rfl⟩
theorem ZaR (n:Int) (w:World):Calls Tryz.prog 137 #[.int .i64 n] w fun e w'=>e=.returned (.int .i64 (clampI n))/\w'=w:=by
 go_enter Tryz.func137,Tryz.ntmps137
 go_wp2_with (go_at_call 195; refine (Zbp _ _).mono ?_; rintro e w' ⟨rfl,rfl⟩)
 go_ret
 exact ⟨rfl,rfl⟩
theorem ZcE (n:Int) (w:World):Calls Tryz.prog 198 #[.int .i64 n] w fun e w'=>e=.returned (.int .i64 (clampI n))/\w'=w:=by
 go_enter Tryz.func198,Tryz.ntmps198
 go_wp2_with (go_at_call 137; refine (ZaR _ _).mono ?_; rintro e w' ⟨rfl,rfl⟩)
 go_ret
 exact ⟨rfl,rfl⟩
theorem add_calls (a b:Int) (w:World):Calls Tryz.prog 200 #[.int .i64 a,.int .i64 b] w fun e w'=>e=.returned (.int .i64 (addI a b))/\w'=w:=by
 have ha:=Zav a
 have hb:=Zav b
 go_enter Tryz.func200,Tryz.ntmps200
 go_wp2_with (first | (go_at_call 198; refine (ZcE _ _).mono ?_; rintro e w' ⟨rfl,rfl⟩) | (go_at_call 195; refine (Zbp _ _).mono ?_; rintro e w' ⟨rfl,rfl⟩))
 go_ret
 exact ⟨rfl,rfl⟩
theorem sub_calls (a b:Int) (w:World):Calls Tryz.prog 140 #[.int .i64 a,.int .i64 b] w fun e w'=>e=.returned (.int .i64 (subI a b))/\w'=w:=by
 have ha:=Zav a
 have hb:=Zav b
 go_enter Tryz.func140,Tryz.ntmps140
 go_wp2_with (first | (go_at_call 198; refine (ZcE _ _).mono ?_; rintro e w' ⟨rfl,rfl⟩) | (go_at_call 195; refine (Zbp _ _).mono ?_; rintro e w' ⟨rfl,rfl⟩))
 go_ret
 exact ⟨rfl,rfl⟩
theorem quo_pos (n d:Int) (w:World) (hn0:0<=n) (hn1:n<=4611686018427387904) (hd0:0 < d) (hd1:d<=2147483648) :
  Calls Tryz.prog 218 #[.int .i64 n,.int .i64 d] w fun e w'=>e=.returned (.int .i64 (rnd n d))/\∃ k,w'=w.drewN k:=by
 have l:=Int.emod_nonneg n (b:=d) (by omega)
 have u:=Int.emod_lt_of_pos n hd0
 have q0:0<=n / d:=Int.ediv_nonneg hn0 (by omega)
 have q1:n / d<=n:=Int.ediv_le_self _ hn0
 go_enter Tryz.func218,Tryz.ntmps218
 go_wp2
 go_region
 all_goals
  go_wp2
 all_goals
  go_ret
  refine ⟨Zad (rnd_of rfl rfl ?_ ?_),1,rfl⟩ <;> intro h <;> (try simp only [bne_iff_ne,bne_eq_false_iff_eq] at *) <;> omega
theorem quo_neg (n d:Int) (w:World) (hn0:n < 0) (hn1:-4611686018427387904<=n) (hd0:0 < d) (hd1:d<=2147483648) :
  Calls Tryz.prog 218 #[.int .i64 n,.int .i64 d] w fun e w'=>e=.returned (.int .i64 (rnd n d))/\∃ k,w'=w.drewN k:=by
 have t:=tmod_bd n d hd0
 have q0:=tdiv_bd n d 4611686018427387904 hn1 (by omega)
 by_cases hr:n.tmod d < 0
 ·go_enter Tryz.func218,Tryz.ntmps218
  go_wp2
  go_region
  all_goals
   go_wp2
  all_goals
   go_ret
   have f:=(floor_of (n:=n) hd0).1 hr
   refine ⟨Zad (rnd_of f.1 f.2 ?_ ?_),1,rfl⟩ <;> intro h <;> (try simp only [bne_iff_ne,bne_eq_false_iff_eq,odd_tmod,ne_eq] at *) <;> omega
 ·go_enter Tryz.func218,Tryz.ntmps218
  go_wp2
  go_region
  all_goals
   go_wp2
  all_goals
   go_ret
   have f:=(floor_of (n:=n) hd0).2 (by omega)
   refine ⟨Zad (rnd_of f.1 f.2 ?_ ?_),1,rfl⟩ <;> intro h <;> (try simp only [bne_iff_ne,bne_eq_false_iff_eq,odd_tmod,ne_eq] at *) <;> omega
theorem quo_dneg_pos (n d:Int) (w:World) (hn0:n<=0) (hn1:-4611686018427387904<=n) (hd0:d < 0) (hd1:-2147483648<=d) :
  Calls Tryz.prog 218 #[.int .i64 n,.int .i64 d] w fun e w'=>e=.returned (.int .i64 (rnd (-n) (-d)))/\∃ k,w'=w.drewN k:=by
 have t:=tmod_dneg n d hd0
 have q0:=tdiv_bd n d 4611686018427387904 hn1 (by omega)
 have hs:=(Zcj n d).1 hn0
 go_enter Tryz.func218,Tryz.ntmps218
 go_wp2
 go_region
 all_goals
  go_wp2
 all_goals
  go_ret
  have f:=(floor_dneg (n:=n) hd0).2 (by omega)
  refine ⟨Zad (rnd_of f.1 f.2 ?_ ?_),1,rfl⟩ <;> intro h <;> (try simp only [bne_iff_ne,bne_eq_false_iff_eq,odd_tmod,ne_eq] at *) <;> omega
theorem quo_dneg_neg (n d:Int) (w:World) (hn0:0 < n) (hn1:n<=4611686018427387904) (hd0:d < 0) (hd1:-2147483648<=d) :
  Calls Tryz.prog 218 #[.int .i64 n,.int .i64 d] w fun e w'=>e=.returned (.int .i64 (rnd (-n) (-d)))/\∃ k,w'=w.drewN k:=by
 have t:=tmod_dneg n d hd0
 have q0:=tdiv_bd n d 4611686018427387904 (by omega) hn1
 have hs:=((Zcj n d).2 (by omega)).2
 have he:=((Zcj n d).2 (by omega)).1
 rw [he] at t hs
 clear he
 by_cases hr:-(n % d) < 0
 ·go_enter Tryz.func218,Tryz.ntmps218
  go_wp2
  go_region
  all_goals
   go_wp2
  all_goals
   go_ret
   all_goals
   have f:=(floor_dneg (n:=n) hd0).1
   rw [((Zcj n d).2 (by omega)).1] at f
   have f:=f (by omega)
   refine ⟨Zad (rnd_of f.1 f.2 ?_ ?_),1,rfl⟩ <;> intro h <;> (try simp only [bne_iff_ne,bne_eq_false_iff_eq,odd_tmod,ne_eq] at *) <;> omega
 ·go_enter Tryz.func218,Tryz.ntmps218
  go_wp2
  go_region
  all_goals
   go_wp2
  all_goals
   go_ret
   all_goals
   have f:=(floor_dneg (n:=n) hd0).2
   rw [((Zcj n d).2 (by omega)).1] at f
   have f:=f (by omega)
   refine ⟨Zad (rnd_of f.1 f.2 ?_ ?_),1,rfl⟩ <;> intro h <;> omega
theorem quo_calls (n d:Int) (w:World) (hn0:-4611686018427387904<=n) (hn1:n<=4611686018427387904) (hd:d ≠ 0) (hd0:-2147483648<=d) (hd1:d<=2147483648) :
  Calls Tryz.prog 218 #[.int .i64 n,.int .i64 d] w fun e w'=>e=.returned (.int .i64 (quoI n d))/\∃ k,w'=w.drewN k:=by
 unfold quoI
 by_cases c:d < 0
 ·rw [if_pos c]
  by_cases c2:n<=0
  ·exact quo_dneg_pos n d w c2 hn0 c hd0
  ·exact quo_dneg_neg n d w (by omega) hn1 c hd0
 ·rw [if_neg c]
  by_cases c2:0<=n
  ·exact quo_pos n d w c2 hn1 (by omega) hd1
  ·exact quo_neg n d w (by omega) hn0 (by omega) hd1
theorem ZbP (a b:Int) (w:World):Calls Tryz.prog 190 #[.int .i64 a,.int .i64 b] w fun e w'=>e=.returned (.int .i64 (mulI a b))/\∃ k,w'=w.drewN k:=by
 have hp:=prod_bd _ _ (Zav a) (Zav b)
 go_enter Tryz.func190,Tryz.ntmps190
 go_wp2_with (first | (go_at_call 198; refine (ZcE _ _).mono ?_; rintro e w' ⟨rfl,rfl⟩) | (go_at_call 195; refine (Zbp _ _).mono ?_; rintro e w' ⟨rfl,rfl⟩) | (go_at_call 218; refine (quo_calls _ _ _ (by omega) (by omega) (by omega) (by omega) (by omega)).mono ?_; rintro e w' ⟨rfl,k,rfl⟩))
 go_ret
 exact ⟨rfl,_,rfl⟩
theorem div_calls (a b:Int) (w:World) (hb:b ≠ 0):Calls Tryz.prog 185 #[.int .i64 a,.int .i64 b] w fun e w'=>e=.returned (.tuple #[.int .i64 (divI a b),.int .i64 0])/\∃ k,w'=w.drewN k:=by
 have ha:=Zav a
 have hc:=Zav b
 have hz:(b == 0)=false:=beq_eq_false_iff_ne.2 hb
 have hn:=clampI_ne hb
 go_enter Tryz.func185,Tryz.ntmps185
 go_wp2_with (first | (go_at_call 198; refine (ZcE _ _).mono ?_; rintro e w' ⟨rfl,rfl⟩) | (go_at_call 195; refine (Zbp _ _).mono ?_; rintro e w' ⟨rfl,rfl⟩) | (go_at_call 218; refine (quo_calls _ _ _ (by omega) (by omega) (by omega) (by omega) (by omega)).mono ?_; rintro e w' ⟨rfl,k,rfl⟩))
 go_ret2
 exact ⟨rfl,_,rfl⟩
def twoI (la lb:Nat):Int:=if 200 < la\/200 < lb then 2 else if la=lb then 0 else 5
def longB (L:Nat->Nat) (n:Nat):Bool:=(List.range n).any fun i=>decide (200 < L i)
theorem longB_true {L:Nat->Nat} {n k:Nat} (hk:k < n) (h:200 < L k):longB L n=true:=by
 unfold longB; rw [List.any_eq_true]; exact ⟨k,List.mem_range.2 hk,by simpa using h⟩
theorem longB_false {L:Nat->Nat} {n:Nat} (h:∀ j,j < n->L j<=200):longB L n=false:=by
 unfold longB; rw [List.any_eq_false]; intro x hx; have:=h x (List.mem_range.1 hx); simp; omega
theorem long_calls (n:Nat) (A:Nat->Option Addr) (L C:Nat->Nat) (b:Nat) (w:World) (hn:n<=1000) (hc:∀ i,i < n->w.cell? ⟨b,i,none⟩=some (.slice (A i) (L i) (C i))) :
  Calls Tryz.prog 199 #[.slice (some ⟨b,0,none⟩) n n] w fun e w'=>e=.returned (.bool (longB L n))/\w'=w:=by
 have HC:Hid (∀ i,i < n->w.cell? ⟨b,i,none⟩=some (.slice (A i) (L i) (C i))):=hc
 clear hc
 go_enter Tryz.func199,Tryz.ntmps199
 go_wp2
 go_loop [7] (fun i=>∃ k:Nat,k<=n/\i=.int .i64 k/\Hid (∀ j,j < k->L j<=200)) (fun i=>n - (intOf i).toNat)
 case atStart=>exact ⟨0,Nat.zero_le _,rfl,fun j hj=>by omega⟩
 case round =>
  obtain ⟨k,hk,rfl,hb⟩:=hrel
  by_cases hlt:k < n
  ·have c:=HC.out k hlt
   obtain ⟨l,hl⟩:∃ l,L k=l:=⟨_,rfl⟩
   rw [hl] at c
   have HL:Hid (L k=l):=hl
   clear hl
   by_cases h2:200 < l
   ·go_wp2
    go_ret
    exact ⟨Zai (longB_true hlt (by rw [HL.out]; exact h2)).symm,rfl⟩
   ·go_wp2
    go_round
    case rel=>exact ⟨k+1,by omega,by go_num,fun j hj=>by
     by_cases e:j=k
     ·subst e; rw [HL.out]; omega
     ·exact hb.out j (by omega)⟩
    case measure=>simp [intOf]; omega
  ·go_wp2
   go_ret
   exact ⟨Zai (longB_false (fun j hj=>hb.out j (by omega))).symm,rfl⟩
theorem eq_of_getD {xs ys:List Int} {n:Nat} (hx:xs.length=n) (hy:ys.length=n) (h:∀ j,j < n->xs.getD j 0=ys.getD j 0):xs=ys:=by
 refine List.ext_getElem (by omega) (fun i h1 h2=>?_)
 have:=h i (by omega)
 rw [List.getD_eq_getElem?_getD,List.getD_eq_getElem?_getD,List.getElem?_eq_getElem h1,List.getElem?_eq_getElem h2] at this
 exact this
theorem dot_calls (a b:Option Addr) (la ca cb:Nat) (xs ys:List Int) (w:World) (ha:Lst w a la ca xs) (hb:Lst w b la cb ys) (h63:la<=1000000000000000000) :
  Calls Tryz.prog 142 #[.slice a la ca,.slice b la cb] w fun e w'=>e=.returned (.int .i64 (dotTo xs ys la))/\∃ k,w'=w.drewN k:=by
 go_enter Tryz.func142,Tryz.ntmps142
 go_wp2
 go_loopw [5,9] (fun s i wr=>∃ k n:Nat,k<=la/\i=.int .i64 k/\s=.int .i64 (dotTo xs ys k)/\wr=w.drewN n) (fun _ i _=>la - (intOf i).toNat)
 case atStart=>exact ⟨0,0,Nat.zero_le _,rfl,rfl,rfl⟩
 case round =>
  obtain ⟨k,n,hk,rfl,rfl,hw⟩:=hrel
  have ha':Lst wr a la ca xs:=hw ▸ ha.drewN n
  have hb':Lst wr b la cb ys:=hw ▸ hb.drewN n
  have HW:Hid (wr=w.drewN n):=hw
  clear hw ha hb
  by_cases hlt:k < la
  ·obtain ⟨b1,o1,x,rfl,_,c1,HX⟩:=ha'.at1 hlt
   obtain ⟨b2,o2,y,rfl,_,c2,HY⟩:=hb'.at1 hlt
   go_wp2
   go_quiet ((first | (go_at_call 190; exact Calls.quiet_of (ZbP _ _ _)) | (go_at_call 200; exact Calls.quiet_of_same (add_calls _ _ _))))
   go_wp2
   go_roundw
   case rel=>exact ⟨k+1,_,by omega,by go_num,by simp only [dotTo,HX.out,HY.out],by rw [HW.out,World.drewN_drewN]⟩
   case measure=>simp [intOf]; omega
  ·go_wp2
   go_ret
   obtain rfl:k=la:=by omega
   exact ⟨rfl,_,HW.out⟩
theorem long1 (a:Option Addr) (la ca b:Nat) (w:World) (hb:b=w.heap.size):Calls Tryz.prog 199 #[.slice (some ⟨b,0,none⟩) 1 1] (w.alloc (.cells #[.slice a la ca] 66)) fun e w'=>e=.returned (.bool (decide (200 < la)))/\w'=w.alloc (.cells #[.slice a la ca] 66):=by
 subst hb
 have h := World.rowIs_alloc w #[.slice a la ca] 66 (fun _ => .slice a la ca) (by intro i hi; obtain rfl : i = 0 := by simpa using hi
                                                                                  rfl)
 refine (long_calls 1 (fun _=>a) (fun _=>la) (fun _=>ca) w.heap.size _ (by omega) (fun i hi=>h.cell hi)).mono ?_
 rintro e w' ⟨rfl,rfl⟩
 exact ⟨Zai (by simp [longB]),rfl⟩
theorem long2 (a b:Option Addr) (la ca lb cb g:Nat) (w:World) (hg:g=w.heap.size):Calls Tryz.prog 199 #[.slice (some ⟨g,0,none⟩) 2 2] (w.alloc (.cells #[.slice a la ca,.slice b lb cb] 66)) fun e w'=>e=.returned (.bool (decide (200 < la\/200 < lb)))/\w'=w.alloc (.cells #[.slice a la ca,.slice b lb cb] 66):=by
 subst hg
 have h:=World.rowIs_alloc w #[.slice a la ca,.slice b lb cb] 66 (fun i=>.slice (if i=0 then a else b) (if i=0 then la else lb) (if i=0 then ca else cb)) (by
  intro i hi
  rcases (show i = 0 ∨ i = 1 from by have : i < 2 := hi
                                     omega) with rfl | rfl <;> rfl)
 refine (long_calls 2 (fun i=>if i=0 then a else b) (fun i=>if i=0 then la else lb) (fun i=>if i=0 then ca else cb) w.heap.size _ (by omega) (fun i hi=>h.cell hi)).mono ?_
 rintro e w' ⟨rfl,rfl⟩
 exact ⟨Zai (by rw [Bool.eq_iff_iff]; simp [longB,List.range_succ]),rfl⟩
theorem two_calls (a b:Option Addr) (la ca lb cb:Nat) (w:World) :
  Calls Tryz.prog 141 #[.slice a la ca,.slice b lb cb] w fun e w'=>e=.returned (.int .i64 (twoI la lb))/\Below w.heap.size w w':=by
 have hb:=(Below.refl w.heap.size w).alloc nr (.cells #[.slice a la ca,.slice b lb cb] 66)
 by_cases hl:200 < la\/200 < lb
 ·have hd:decide (200 < la\/200 < lb)=true:=decide_eq_true hl
  go_enter Tryz.func141,Tryz.ntmps141
  go_wp2_with (go_at_call 199; refine (long2 _ _ _ _ _ _ _ _ rfl).mono ?_; rintro e w' ⟨rfl,rfl⟩; rw [hd])
  go_ret
  exact ⟨Zad (by simp only [twoI,if_pos hl]),hb⟩
 ·have hd:decide (200 < la\/200 < lb)=false:=decide_eq_false hl
  by_cases he:la=lb
  ·have ht:((la:Int) != (lb:Int))=false:=by rw [bne_eq_false_iff_eq]; omega
   have HE:Hid (la=lb):=he
   clear he
   go_enter Tryz.func141,Tryz.ntmps141
   go_wp2_with (go_at_call 199; refine (long2 _ _ _ _ _ _ _ _ rfl).mono ?_; rintro e w' ⟨rfl,rfl⟩; rw [hd])
   go_ret
   exact ⟨Zad (by simp only [twoI,if_neg hl,if_pos HE.out]),hb⟩
  ·have ht:((la:Int) != (lb:Int))=true:=by rw [bne_iff_ne]; omega
   go_enter Tryz.func141,Tryz.ntmps141
   go_wp2_with (go_at_call 199; refine (long2 _ _ _ _ _ _ _ _ rfl).mono ?_; rintro e w' ⟨rfl,rfl⟩; rw [hd])
   go_ret
   exact ⟨Zad (by simp only [twoI,if_neg hl,if_neg he]),hb⟩
theorem info3:(Tryz.prog.info? 3).map (fun i=>(i.zero,i.size,i.bytes))=some (some (.int .i64 0),1,8):=by kernel_rfl
theorem twoI_cases (la lb:Nat):(twoI la lb=0/\la=lb/\la<=200)\/(twoI la lb ≠ 0/\(twoI la lb != 0)=true):=by
 unfold twoI
 by_cases h:200 < la\/200 < lb
 ·rw [if_pos h]; exact .inr ⟨by decide,by decide⟩
 ·rw [if_neg h]
  by_cases e:la=lb
  ·rw [if_pos e]; exact .inl ⟨rfl,e,by omega⟩
  ·rw [if_neg e]; exact .inr ⟨by decide,by decide⟩
theorem vDot_calls (a b:Option Addr) (la ca lb cb:Nat) (xs ys:List Int) (w:World) (ha:Lst w a la ca xs) (hb:Lst w b lb cb ys) :
  Calls Tryz.prog 98 #[.slice a la ca,.slice b lb cb] w fun e w'=>e=.returned (.tuple #[.int .i64 (if twoI la lb=0 then dotTo xs ys la else 0),.int .i64 (twoI la lb)])/\Below w.heap.size w w':=by
 rcases twoI_cases la lb with ⟨h0,rfl,hl⟩ | ⟨h0,h1⟩
 ·rw [if_pos h0]
  have H0:Hid (twoI la la=0):=h0
  clear h0
  go_enter Tryz.func98,Tryz.ntmps98
  go_wp2_with (first | (go_at_call 141; refine (two_calls _ _ _ _ _ _ _).mono ?_; rintro e w' ⟨rfl,hw⟩; rw [H0.out]) | (go_at_call 142; refine (dot_calls _ _ _ _ _ xs ys _ (ha.below hw nr) (hb.below hw nr) (by omega)).mono ?_; rintro e w' ⟨rfl,k,rfl⟩))
  go_ret2
  exact ⟨by rw [H0.out]; rfl,Zab hw _⟩
 ·rw [if_neg h0]
  clear ha hb h0
  go_enter Tryz.func98,Tryz.ntmps98
  go_wp2_with (go_at_call 141; refine (two_calls _ _ _ _ _ _ _).mono ?_; rintro e w' ⟨rfl,hw⟩)
  go_ret2
  exact ⟨rfl,hw⟩
section
def OwnI (base:Nat) (w:World) (v:Value) (xs:List Int):Prop:=w.ownsRow base 3 1 v xs.length (xs.map (Value.int .i64))
theorem OwnI.nil (base:Nat) (w:World):OwnI base w (.slice none 0 0) []:=World.ownsRow_nil _ _ _ _
theorem OwnI.drew {base:Nat} {w:World} {v:Value} {xs:List Int} (h:OwnI base w v xs):OwnI base w.drew v xs:=h
theorem OwnI.alloc {base:Nat} {w:World} {v:Value} {xs:List Int} (h:OwnI base w v xs) (o:Obj):OwnI base (w.alloc o) v xs:=World.ownsRow.alloc h o
theorem OwnI.below {base:Nat} {w w':World} {v:Value} {xs:List Int} (h:OwnI base w v xs) (hb:Below w.heap.size w w'):OwnI base w' v xs:=by
 refine ⟨h.1,?_⟩
 rcases h.2 with h0 | ⟨g,cap,cur,hv,hg,hh,r⟩
 ·exact .inl h0
 ·exact .inr ⟨g,cap,cur,hv,hg,by rw [hb.block g (Array.getElem?_eq_some_iff.1 hh).1]; exact hh,r⟩
theorem OwnI.lst {base:Nat} {w:World} {v:Value} {xs:List Int} (h:OwnI base w v xs):∃ a c,v=.slice a xs.length c/\Lst w a xs.length c xs:=Lst.owned h
theorem OwnI.lst' {base:Nat} {w:World} {v:Value} {xs:List Int} {n:Nat} (h:OwnI base w v xs) (hn:xs.length=n):∃ a c,v=.slice a n c/\Lst w a n c xs:=by
 subst hn; exact Lst.owned h
theorem OwnI.congr {base:Nat} {w:World} {v:Value} {xs ys:List Int} (h:OwnI base w v xs) (e:xs=ys):OwnI base w v ys:=e ▸ h
theorem Zay (g:Nat->Int) (k:Nat) (x:Int) (h:g k=x):(List.range k).map g ++ [x]=(List.range (k+1)).map g:=by
 rw [List.range_succ,List.map_append,List.map_singleton,h]
section
variable {w' W0:World} {ops:Array Oper} {o:Oper} {a:Act} {Q:Exit->Act->World->Prop}
theorem ZcP (ty:TypeId) (base:Nat) (v:Value) (xs:List Int) (z:Int) (g:Nat) (hown:OwnI base w' v xs) (hc:w'.cell? ⟨g,0,none⟩=some (.int .i64 z))
  (hn:(xs.length+1) * 8<=140737488355328) (hbase:base<=w'.heap.size) (hB:Below base W0 w') :
  ∃ v' w1,(Builtin.append_ #[66,66] ty #[v,.slice (some ⟨g,0,none⟩) 1 1]).run Tryz.prog w'=.ok v' w1/\OwnI base w1 v' (xs ++ [z])/\Below base W0 w1:=by
 obtain ⟨i0,hi,hz0,hz1,hz2⟩:=info_parts info3
 obtain ⟨v',w1,hrun,h1,h2,_⟩:=run_append_own (P:=Tryz.prog) w' base 66 ty 3 i0 (.int .i64 0) 1 8 Tryz.underlying66 hi hz0 hz1 hz2 rfl (by decide) v xs.length _ hown ⟨g,0,none⟩ 1 1 [.int .i64 z] rfl
  (by intro j u hj
      match j,hj with
      | 0,hj=>simp at hj; subst hj; simpa [Addr.add] using hc)
  (by intro u hu; simp at hu; subst hu; rfl) (by unfold maxLen; omega) hn hbase
 refine ⟨v',w1,hrun,by unfold OwnI; rw [List.length_append,List.map_append]; exact h1,hB.grown h2 hbase ?_⟩
 intro k hk
 rcases hown.2 with ⟨rfl,_⟩ | ⟨g',cap,cur,rfl,hg,_⟩
 ·simp [Value.ownBlock] at hk
 ·simp [Value.ownBlock] at hk; omega
theorem Zaz {rest:List Oper} (hgd:o.guard=none) (s x:Operand) (ho:o.op=.call { callee:=.builtin .append,args:=#[s,x],argTypes:=#[66,66] })
  (base:Nat) (v:Value) (xs:List Int) (z:Int) (g:Nat) (W0:World) (hs:a.eval s=v) (hx:a.eval x=.slice (some ⟨g,0,none⟩) 1 1) (hown:OwnI base w' v xs) (hc:w'.cell? ⟨g,0,none⟩=some (.int .i64 z))
  (hn:(xs.length+1) * 8<=140737488355328) (hbase:base<=w'.heap.size) (hB:Below base W0 w')
  (h:∀ v' w1,OwnI base w1 v' (xs ++ [z])->Below base W0 w1->wpList Tryz.prog ops Q rest (a.put o.dst v') w1):wpList Tryz.prog ops Q (o :: rest) a w':=by
 obtain ⟨v',w1,hrun,h1,h2⟩:=ZcP o.type base v xs z g hown hc hn hbase hB
 refine wpList_plain hgd fun K hK=>?_
 unfold Oper.wp
 simp [execOp,ho,resolve,invoke,builtin,hs,hx,hrun,Result.andThen]
 exact hK _ _ (h v' w1 h1 h2)
theorem Zcm {K:Act->World->Prop} {E:Prop} (hgd:o.guard=none) (s x:Operand) (ho:o.op=.call { callee:=.builtin .append,args:=#[s,x],argTypes:=#[66,66] })
  (base:Nat) (v:Value) (xs:List Int) (z:Int) (g:Nat) (W0:World) (hs:a.eval s=v) (hx:a.eval x=.slice (some ⟨g,0,none⟩) 1 1) (hown:OwnI base w' v xs) (hc:w'.cell? ⟨g,0,none⟩=some (.int .i64 z))
  (hn:(xs.length+1) * 8<=140737488355328) (hbase:base<=w'.heap.size) (hB:Below base W0 w')
  (h:∀ v' w1,OwnI base w1 v' (xs ++ [z])->Below base W0 w1->K (a.put o.dst v') w1) :
  if Region.wanted o (yielded ops a.tmps)=true then Oper.wp Tryz.prog o a w' K Q else E:=by
 obtain ⟨v',w1,hrun,h1,h2⟩:=ZcP o.type base v xs z g hown hc hn hbase hB
 have hw:Region.wanted o (yielded ops a.tmps)=true:=by simp [Region.wanted,hgd]
 rw [if_pos hw]
 unfold Oper.wp
 simp [execOp,ho,resolve,invoke,builtin,hs,hx,hrun,Result.andThen]
 exact h v' w1 h1 h2
end
end
section
def placeP (seed:Int) (epoch i:Nat):Nat:=(ofP 2 [seed,((64 * epoch+i:Nat):Int)] % ((i:Int)+1)).toNat
theorem placeP_le (seed:Int) (epoch i:Nat):placeP seed epoch i<=i:=by
 unfold placeP
 have h:=Int.emod_lt_of_pos (ofP 2 [seed,((64 * epoch+i:Nat):Int)]) (b:=(i:Int)+1) (by omega)
 omega
theorem placeP_eq (seed:Int) (epoch i:Nat):ofP 2 [seed,((64 * epoch+i:Nat):Int)] % ((i:Int)+1)=(placeP seed epoch i:Int):=by
 unfold placeP
 have h:=Int.emod_nonneg (ofP 2 [seed,((64 * epoch+i:Nat):Int)]) (b:=(i:Int)+1) (by omega)
 omega
def swapF (f:Nat->Int) (i j:Nat):Nat->Int:=fun x=>if x=j then f i else if x=i then f j else f x
def shufTo (seed:Int) (epoch n:Nat):Nat->Nat->Int
 | 0=>fun x=>(x:Int)
 | k+1=>swapF (shufTo seed epoch n k) (n - 1 - k) (placeP seed epoch (n - 1 - k))
theorem shufTo_step {seed:Int} {epoch n k i:Nat} (h:i+k+1=n):swapF (shufTo seed epoch n k) i (placeP seed epoch i)=shufTo seed epoch n (k+1):=by
 obtain rfl:i=n - 1 - k:=by omega
 rfl
def shufF (seed:Int) (epoch n:Nat):Nat->Int:=shufTo seed epoch n (n - 1)
theorem ZaS (g:Nat->Int) {n i:Nat} (h:i < n):((List.range n).map g).getD i 0=g i:=by
 simp [List.getD_eq_getElem?_getD,h]
def batchG (seed:Int) (n s i:Nat):Int:=shufF seed ((s+i) / n) n ((s+i) % n)
def batchP (seed:Int) (size n s:Nat):List Int:=(List.range size).map (batchG seed n s)
theorem day_goes {n d r s k t:Nat} (ht:s+k=t) (hdm:n * d+r=t) (hrn:r < n) (hk:k ≠ 0) (hr:r ≠ 0):(s+(k - 1)) / n=d:=by
 rw [show s+(k - 1)=(r - 1)+n * d from by omega,Nat.add_mul_div_left _ _ (by omega),Nat.div_eq_of_lt (by omega),Nat.zero_add]
def Arr (w:World) (b c n:Nat) (f:Nat->Int):Prop:=n<=c/\∃ F,w.rowIs b 3 c F/\∀ i,i < n->F i=.int .i64 (f i)
namespace Arr
variable {w w':World} {b c n:Nat} {f g:Nat->Int}
theorem cap (h:Arr w b c n f):n<=c:=h.1
theorem cell (h:Arr w b c n f) {i:Nat} (hi:i < n):w.cell? ⟨b,i,none⟩=some (.int .i64 (f i)):=by
 obtain ⟨hc,F,hr,hf⟩:=h
 rw [hr.cell (by omega),hf i hi]
theorem frozen (h:Arr w b c n f) (i:Nat):w.frozen? ⟨b,i,none⟩=false:=by
 obtain ⟨hc,F,hr,hf⟩:=h
 exact hr.frozen i
theorem lt (h:Arr w b c n f):b < w.heap.size:=by
 obtain ⟨hc,F,hr,hf⟩:=h
 exact hr.lt
theorem congr (h:Arr w b c n f) (e:∀ i,i < n->f i=g i):Arr w b c n g:=by
 obtain ⟨hc,F,hr,hf⟩:=h
 exact ⟨hc,F,hr,fun i hi=>by rw [hf i hi,e i hi]⟩
theorem set (h:Arr w b c n f) (i:Nat) (x:Int):Arr (w.setCell ⟨b,i,none⟩ (.int .i64 x)) b c n (fun j=>if j=i then x else f j):=by
 obtain ⟨hc,F,hr,hf⟩:=h
 refine ⟨hc,_,hr.set i _,fun j hj=>?_⟩
 by_cases e:j=i
 ·simp [e]
 ·simp [e,hf j hj]
theorem swap (h:Arr w b c n f) (i j:Nat) (x y:Int) (hx:f j=x) (hy:f i=y):Arr ((w.setCell ⟨b,i,none⟩ (.int .i64 x)).setCell ⟨b,j,none⟩ (.int .i64 y)) b c n (swapF f i j):=by
 refine ((h.set i x).set j y).congr (fun k _=>?_)
 unfold swapF
 rw [hx,hy]
theorem below (h:Arr w b c n f) (hb:Below w.heap.size w w'):Arr w' b c n f:=by
 have hlt:=h.lt
 obtain ⟨hc,F,hr,hf⟩:=h
 exact ⟨hc,F,hr.of_block (hb.block _ hlt),hf⟩
theorem drewN (h:Arr w b c n f) (k:Nat):Arr (w.drewN k) b c n f:=h
theorem drew (h:Arr w b c n f):Arr w.drew b c n f:=h
theorem alloc (h:Arr w b c n f) (o:Obj):Arr (w.alloc o) b c n f:=by
 obtain ⟨hc,F,hr,hf⟩:=h
 exact ⟨hc,F,hr.alloc o,hf⟩
theorem setOther (h:Arr w b c n f) {a:Addr} (ha:b ≠ a.block) (v:Value):Arr (w.setCell a v) b c n f:=by
 obtain ⟨hc,F,hr,hf⟩:=h
 exact ⟨hc,F,hr.setOther ha v,hf⟩
theorem lst (h:Arr w b c n f):Lst w (some ⟨b,0,none⟩) n c ((List.range n).map f) :=
 ⟨by simp,h.cap,.inr ⟨b,0,rfl,h.lt,fun i hi=>by rw [Nat.zero_add,h.cell hi,ZaS f hi]⟩⟩
theorem row (h:w.rowIs b 3 n (rowTo f n)):Arr w b n n f:=⟨nr,_,h,fun i hi=>by unfold rowTo; rw [if_pos hi]⟩
end Arr
theorem OwnI.arr {base:Nat} {w:World} {v:Value} {n:Nat} {f:Nat->Int} (h:OwnI base w v ((List.range n).map f)) (h1:1<=n) :
  ∃ b c,v=.slice (some ⟨b,0,none⟩) n c/\base<=b/\Arr w b c n f:=by
 obtain ⟨hl,h2⟩:=h
 rcases h2 with ⟨_,hn⟩ | ⟨g,cap,cur,rfl,hg,hh,hle,_,hsz,hcur⟩
 ·simp at hn; omega
 ·simp only [List.length_map,List.length_range,Nat.mul_one] at hle hcur hsz ⊢
  refine ⟨g,cap,rfl,hg,hle,fun i=>cur[i]?.getD default,⟨cur,hh,hsz,fun i hi=>?_⟩,fun i hi=>?_⟩
  ·show cur[i]?=some (cur[i]?.getD default)
   rw [Array.getElem?_eq_getElem (by omega)]; rfl
  ·have h3:(((List.range n).map f).map (Value.int .i64))[i]?=some (.int .i64 (f i)):=by simp [hi]
   rw [← hcur,List.getElem?_take_of_lt hi,Array.getElem?_toList] at h3
   show cur[i]?.getD default=_
   rw [h3]; rfl
end
theorem place_calls (seed:Int) (hs:okW seed) (epoch i:Nat) (he:epoch<=1000) (hi:i<=16) (w:World) :
  Calls Tryz.prog 217 #[.int .u64 seed,.int .i64 epoch,.int .i64 i] w fun e w'=>e=.returned (.int .i64 (placeP seed epoch i))/\Below w.heap.size w w':=by
 have HE:Hid (ofP 2 [seed,((64 * epoch+i:Nat):Int)] % ((i:Int)+1)=(placeP seed epoch i:Int)):=placeP_eq _ _ _
 have hle:=placeP_le seed epoch i
 have HK:Hid (okP (ofP 2 [seed,((64 * epoch+i:Nat):Int)])):=ZbO _ _
 generalize placeP seed epoch i=j at *
 obtain ⟨t,ht⟩:∃ t:Nat,64 * epoch+i=t:=⟨_,rfl⟩
 rw [ht] at HE HK
 have e1:(64:Int) * (epoch:Int)+(i:Int)=(t:Int):=by omega
 have kt:okW (t:Int):=⟨by omega,by omega⟩
 go_enter Tryz.func217,Tryz.ntmps217
 go_wp2_with fail
 refine (dWord_calls _ _ hs kt _).mono ?_
 rintro e w1 ⟨rfl,hw1⟩
 obtain ⟨M,hM⟩:∃ M,ofP 2 [seed,(t:Int)]=M:=⟨_,rfl⟩
 rw [hM] at HE HK ⊢
 obtain ⟨m0,m1⟩:=HK.out
 have e2:M.tmod ((i:Int)+1)=(j:Int):=by rw [Int.tmod_eq_emod_of_nonneg m0]; exact HE.out
 have e3:M % ((i:Int)+1)=(j:Int):=HE.out
 clear hM
 go_wp2
 go_ret
 exact ⟨rfl,hw1⟩
theorem order_calls (seed:Int) (hs:okW seed) (epoch n:Nat) (he:epoch<=1000) (h1:1<=n) (h2:n<=16) (w:World) :
  Calls Tryz.prog 182 #[.int .u64 seed,.int .i64 epoch,.int .i64 n] w fun e w'=>∃ b,e=.returned (.slice (some ⟨b,0,none⟩) n n)/\w.heap.size<=b/\Arr w' b n n (shufF seed epoch n)/\Below w.heap.size w w':=by
 have hmk:=run_make_row' (P:=Tryz.prog) 66 3 (.int .i64 0) 8 Tryz.underlying66 info3 rfl .i64 .i64 n (by omega) (by omega)
 go_enter Tryz.func182,Tryz.ntmps182
 go_wp2
 go_loopw [15] (fun i wr=>∃ k:Nat,k<=n/\i=.int .i64 k/\wr.rowIs w.heap.size 3 n (rowTo (fun x=>(x:Int)) k)/\Below w.heap.size w wr) (fun i _=>n - (intOf i).toNat)
 case atStart=>exact ⟨0,Nat.zero_le _,rfl,ZaG (World.rowIs_made _ _ _ _),br.alloc nr _⟩
 case round =>
  obtain ⟨k,hk,rfl,hrow,hbel⟩:=hrel
  clear hmk
  by_cases hlt:k < n
  ·have c3:=Zax hrow hlt
   have f3:=hrow.frozen k
   go_wp2
   go_roundw
   case rel=>exact ⟨k+1,by omega,by go_num,Zaw (g:=fun x=>(x:Int)) hrow,hbel.setCell nr _⟩
   case measure=>simp [intOf]; omega
  ·obtain rfl:k=n:=by omega
   have hA:Arr wr w.heap.size k k (shufTo seed epoch k 0):=Arr.row hrow
   clear hrow
   generalize hwr:wr=w1 at *
   clear hwr
   go_wp2
   go_loopw [9] (fun i wr=>∃ p j:Nat,p+j+1=k/\i=.int .i64 p/\Arr wr w.heap.size k k (shufTo seed epoch k j)/\Below w.heap.size w wr) (fun i _=>(intOf i).toNat)
   case atStart=>exact ⟨k - 1,0,by omega,by go_num,hA,hbel⟩
   case round =>
    obtain ⟨p,j,hp,rfl,hR,hB⟩:=hrel
    clear hA hbel
    by_cases hlt2:1<=p
    ·go_wp2_with fail
     refine (place_calls _ hs _ _ he (by omega) _).mono ?_
     rintro e w2 ⟨rfl,hw2⟩
     have hle:=placeP_le seed epoch p
     have HS:Hid (swapF (shufTo seed epoch k j) p (placeP seed epoch p)=shufTo seed epoch k (j+1)):=shufTo_step hp
     generalize placeP seed epoch p=q at *
     replace hB:=hB.trans (hw2.mono hB.size)
     replace hR:=hR.below hw2
     have c1:=hR.cell (i:=p) (by omega)
     have c2:=hR.cell (i:=q) (by omega)
     have f1:=hR.frozen p
     have f2:=hR.frozen q
     have R1:=hR.set p (shufTo seed epoch k j q)
     have f3:=R1.frozen q
     have d3:=R1.cell (i:=q) (by omega)
     have hqk:q < k:=by omega
     have hpk:p < k:=by omega
     generalize (if q=p then shufTo seed epoch k j q else shufTo seed epoch k j q)=z at d3
     obtain ⟨x,hx⟩:∃ x,shufTo seed epoch k j q=x:=⟨_,rfl⟩
     obtain ⟨y,hy⟩:∃ y,shufTo seed epoch k j p=y:=⟨_,rfl⟩
     have RR:=hR.swap p q x y hx hy
     rw [hx] at c2 f3 d3
     rw [hy] at c1
     clear R1 hx hy hw2
     go_wp2
     go_region
     go_wp2
     go_roundw
     case rel=>exact ⟨p - 1,j+1,by omega,by go_num,(HS.out ▸ RR).drew,Zab ((hB.setCell nr _).setCell nr _) 1⟩
     case measure=>simp [intOf]; omega
    ·obtain rfl:p=0:=by omega
     go_wp2
     go_ret
     obtain rfl:j=k - 1:=by omega
     exact ⟨_,rfl,nr,hR,hB⟩
def cntB (n:Int):Bool:=decide (1<=n) && decide (n<=16)
theorem count_calls (n:Int) (w:World):Calls Tryz.prog 181 #[.int .i64 n] w fun e w'=>e=.returned (.bool (cntB n))/\w'=w:=by
 unfold cntB
 by_cases h1:1<=n
 ·by_cases h2:n<=16
  ·go_enter Tryz.func181,Tryz.ntmps181
   go_wp2
   go_ret
   exact ⟨Zai (by simp [h1,h2]),rfl⟩
  ·go_enter Tryz.func181,Tryz.ntmps181
   go_wp2
   go_ret
   exact ⟨Zai (by simp; omega),rfl⟩
 ·go_enter Tryz.func181,Tryz.ntmps181
  go_wp2
  go_ret
  exact ⟨Zai (by simp; omega),rfl⟩
theorem cnt_yes {n:Int} (h:1<=n/\n<=16):cntB n=true:=by unfold cntB; simp; omega
def okS (epoch n:Int):Prop:=(1<=n/\n<=16)/\0<=epoch/\epoch<=1000
instance (epoch n:Int):Decidable (okS epoch n):=by unfold okS; infer_instance
def NowIs (seed:Int) (n s k base:Nat) (v:Value) (w:World):Prop:=k=0\/∃ b c,v=.slice (some ⟨b,0,none⟩) n c/\base < b/\Arr w b c n (shufF seed ((s+(k - 1)) / n) n)
theorem NowIs.next {seed:Int} {n s k base b c d:Nat} {w:World} (hA:Arr w b c n (shufF seed d n)) (hb:base < b) (hd:(s+k) / n=d):NowIs seed n s (k+1) base (.slice (some ⟨b,0,none⟩) n c) w:=by
 subst hd
 exact .inr ⟨b,c,rfl,hb,hA⟩
theorem NowIs.before {seed:Int} {n s k base:Nat} {v:Value} {w:World} (h:NowIs seed n s k base v w) (hk:k ≠ 0):∃ b c,v=.slice (some ⟨b,0,none⟩) n c/\base < b/\Arr w b c n (shufF seed ((s+(k - 1)) / n) n):=by
 rcases h with h | h
 ·exact absurd h hk
 ·exact h
theorem batch_good (seed:Int) (hs:okW seed) (size n step:Nat) (z1:1<=size) (z2:size<=8) (h1:1<=n) (h2:n<=16) (hp:step<=39) (w:World) :
  Calls Tryz.prog 132 #[.int .u64 seed,.int .i64 size,.int .i64 n,.int .i64 step] w fun e w'=>∃ b,e=.returned (.tuple #[.slice (some ⟨b,0,none⟩) size size,.int .i64 0])/\w.heap.size<=b/\Arr w' b size size (batchG seed n (step * size))/\Below w.heap.size w w':=by
 have HC:Hid (cntB (n:Int)=true):=cnt_yes ⟨by omega,by omega⟩
 have hmul:step * size<=39 * 8:=Nat.mul_le_mul hp z2
 obtain ⟨s,hsz⟩:∃ s,step * size=s:=⟨_,rfl⟩
 have e1:(step:Int) * (size:Int)=(s:Int):=by rw [← hsz]; simp
 rw [hsz] at hmul ⊢
 have hmk:=run_make_row' (P:=Tryz.prog) 66 3 (.int .i64 0) 8 Tryz.underlying66 info3 rfl .i64 .i64 size (by omega) (by omega)
 clear hsz
 go_enter Tryz.func132,Tryz.ntmps132
 go_wp2_with (go_at_call 181; refine (count_calls _ _).mono ?_; rintro e w' ⟨rfl,hw'⟩; replace hw':=hw'.symm; subst hw'; rw [HC.out])
 go_loopw [11,37] (fun v i wr=>∃ k:Nat,k<=size/\i=.int .i64 k/\NowIs seed n s k w.heap.size v wr/\wr.rowIs w.heap.size 3 size (rowTo (batchG seed n s) k)/\Below w.heap.size w wr) (fun _ i _=>size - (intOf i).toNat)
 case atStart=>exact ⟨0,Nat.zero_le _,rfl,.inl rfl,ZaG (World.rowIs_made _ _ _ _),br.alloc nr _⟩
 case round =>
  obtain ⟨k,hk,rfl,hnow,hrow,hbel⟩:=hrel
  clear hmk
  by_cases hlt:k < size
  ·obtain ⟨t,ht⟩:∃ t,s+k=t:=⟨_,rfl⟩
   obtain ⟨d,hd⟩:∃ d,t / n=d:=⟨_,rfl⟩
   obtain ⟨r,hr⟩:∃ r,t % n=r:=⟨_,rfl⟩
   have hrn:r < n:=by rw [← hr]; exact Nat.mod_lt _ (by omega)
   have hdm:n * d+r=t:=by rw [← hd,← hr]; exact Nat.div_add_mod t n
   have hdt:d<=t:=by rw [← hd]; exact Nat.div_le_self _ _
   have HG:Hid (batchG seed n s k=shufF seed d n r):=by show batchG seed n s k=_; unfold batchG; rw [ht,hd,hr]
   have e2:(s:Int)+(k:Int)=(t:Int):=by omega
   have e3:(t:Int).tdiv (n:Int)=(d:Int):=by rw [← hd]; exact Int.ofNat_tdiv t n
   have e4:(t:Int).tmod (n:Int)=(r:Int):=by rw [← hr]; exact Int.ofNat_tmod t n
   have hn0:((n:Int) == 0)=false:=by rw [beq_eq_false_iff_ne]; omega
   have hlr:=hrow.lt
   by_cases hk0:k=0
   ·have b0:((k:Int) == 0)=true:=by rw [beq_iff_eq]; omega
    clear hnow hk0
    go_wp2_with fail
    refine (order_calls _ hs d n (by omega) h1 h2 _).mono ?_
    rintro e w2 ⟨b,rfl,hb,hA,hw2⟩
    replace hrow:=hrow.of_block (hw2.block _ hlr)
    have c3:=Zax hrow hlt
    have f3:=hrow.frozen k
    have hbl:=hbel.trans (hw2.mono hbel.size)
    have c4:=hA.cell hrn
    obtain ⟨x,hx⟩:∃ x,shufF seed d n r=x:=⟨_,rfl⟩
    rw [hx] at c4 HG
    have st:=Zaw (g:=batchG seed n s) hrow
    rw [HG.out] at st
    clear hx
    go_wp2
    go_roundw
    case rel=>exact ⟨k+1,by omega,by go_num,NowIs.next (hA.setOther (show b ≠ w.heap.size by omega) _) (by omega) (by rw [ht,hd]),st,hbl.setCell nr _⟩
    case measure=>simp [intOf]; omega
   ·have b0:((k:Int) == 0)=false:=by rw [beq_eq_false_iff_ne]; omega
    by_cases hr0:r=0
    ·have b1:((r:Int) == 0)=true:=by rw [beq_iff_eq]; omega
     clear hnow hr0
     go_wp2_with fail
     refine (order_calls _ hs d n (by omega) h1 h2 _).mono ?_
     rintro e w2 ⟨b,rfl,hb,hA,hw2⟩
     replace hrow:=hrow.of_block (hw2.block _ hlr)
     have c3:=Zax hrow hlt
     have f3:=hrow.frozen k
     have hbl:=hbel.trans (hw2.mono hbel.size)
     have c4:=hA.cell hrn
     obtain ⟨x,hx⟩:∃ x,shufF seed d n r=x:=⟨_,rfl⟩
     rw [hx] at c4 HG
     have st:=Zaw (g:=batchG seed n s) hrow
     rw [HG.out] at st
     clear hx
     go_wp2
     go_roundw
     case rel=>exact ⟨k+1,by omega,by go_num,NowIs.next (hA.setOther (show b ≠ w.heap.size by omega) _) (by omega) (by rw [ht,hd]),st,hbl.setCell nr _⟩
     case measure=>simp [intOf]; omega
    ·have b1:((r:Int) == 0)=false:=by rw [beq_eq_false_iff_ne]; omega
     obtain ⟨b,c,rfl,hb,hA⟩:=hnow.before hk0
     rw [day_goes ht hdm hrn hk0 hr0] at hA
     have c3:=Zax hrow hlt
     have f3:=hrow.frozen k
     have c4:=hA.cell hrn
     obtain ⟨x,hx⟩:∃ x,shufF seed d n r=x:=⟨_,rfl⟩
     rw [hx] at c4 HG
     have st:=Zaw (g:=batchG seed n s) hrow
     rw [HG.out] at st
     clear hx
     go_wp2
     go_roundw
     case rel=>exact ⟨k+1,by omega,by go_num,NowIs.next (hA.setOther (show b ≠ w.heap.size by omega) _) (by omega) (by rw [ht,hd]),st,hbel.setCell nr _⟩
     case measure=>simp [intOf]; omega
  ·obtain rfl:k=size:=by omega
   go_wp2
   go_ret2
   exact ⟨_,rfl,nr,Arr.row hrow,hbel⟩
def okB (size n step:Int):Prop:=(1<=size/\size<=8)/\(1<=n/\n<=16)/\0<=step/\step<=39
instance (size n step:Int):Decidable (okB size n step):=by unfold okB; infer_instance
def batchL (seed size n step:Int):List Int:=if okB size n step then batchP seed size.toNat n.toNat (step.toNat * size.toNat) else []
theorem ZbQ (n:Int) (w:World):Calls Tryz.prog 222 #[.int .i64 n] w fun e w'=>e=.returned (.bool (sideB n))/\w'=w:=by
 by_cases h1:1<=n
 ·by_cases h2:n<=4
  ·go_enter Tryz.func222,Tryz.ntmps222
   go_wp2
   go_ret
   exact ⟨Zai (by rw [ZaP h1 h2]),rfl⟩
  ·go_enter Tryz.func222,Tryz.ntmps222
   go_wp2
   go_ret
   exact ⟨Zai (by rw [ZbV (by omega)]),rfl⟩
 ·go_enter Tryz.func222,Tryz.ntmps222
  go_wp2
  go_ret
  exact ⟨Zai (by rw [ZbV (by omega)]),rfl⟩
theorem ZbF (r c:Int) (a:Option Addr) (len cap:Nat) (xs:List Int) (w:World) (ha:Lst w a len cap xs) :
  Calls Tryz.prog 196 #[.agg #[.int .i64 r,.int .i64 c,.slice a len cap]] w fun e w'=>e=.returned (.int .i64 (chkI r c len xs))/\Below w.heap.size w w':=by
 have hal:=(Below.refl w.heap.size w).alloc nr (.cells #[.int .i64 r,.int .i64 c,.slice a len cap] 100)
 cases hr:sideB r with
 | false =>
   go_enter Tryz.func196,Tryz.ntmps196
   go_wp2_with (go_at_call 222; refine (ZbQ _ _).mono ?_; rintro e w' ⟨rfl,rfl⟩)
   go_ret
   exact ⟨Zad (by simp [chkI,hr]),hal⟩
 | true =>
   cases hc:sideB c with
   | false =>
     go_enter Tryz.func196,Tryz.ntmps196
     go_wp2_with (go_at_call 222; refine (ZbQ _ _).mono ?_; rintro e w' ⟨rfl,rfl⟩)
     go_ret
     exact ⟨Zad (by simp [chkI,hc]),hal⟩
   | true =>
     have br:=ZaY hr
     have bc:=ZaY hc
     have bp:=prod_side br.1 br.2 bc.1 bc.2
     by_cases hl:(len:Int)=r * c
     ·have ht:((len:Int) != r * c)=false:=by rw [bne_eq_false_iff_eq]; exact hl
      have HL:Hid ((len:Int)=r * c):=hl
      have hlen:len<=16:=by omega
      clear hl
      have ha':=ha.below hal nr
      clear ha
      go_enter Tryz.func196,Tryz.ntmps196
      go_wp2_with (go_at_call 222; refine (ZbQ _ _).mono ?_; rintro e w' ⟨rfl,rfl⟩)
      go_loopw [27] (fun i wr=>∃ k:Nat,k<=len/\i=.int .i64 k/\Hid (∀ j,j < k->xs.getD j 0=clampI (xs.getD j 0))/\wr=w.alloc (.cells #[.int .i64 r,.int .i64 c,.slice a len cap] 100)) (fun i _=>len - (intOf i).toNat)
      case atStart=>exact ⟨0,Nat.zero_le _,rfl,fun j hj=>by omega,rfl⟩
      case round =>
       obtain ⟨k,hk,rfl,hg,rfl⟩:=hrel
       by_cases hlt:k < len
       ·obtain ⟨b1,o1,x,rfl,s1,c1,HX⟩:=ha'.at1 hlt
        by_cases hx:x=clampI x
        ·have hx':(x != clampI x)=false:=by rw [bne_eq_false_iff_eq]; exact hx
         have HC:Hid (x=clampI x):=hx
         clear hx
         go_wp2_with (go_at_call 137; refine (ZaR _ _).mono ?_; rintro e w' ⟨rfl,rfl⟩)
         go_roundw
         case rel=>exact ⟨k+1,by omega,by go_num,fun j hj=>by
          by_cases e:j=k
          ·subst e; rw [HX.out]; exact HC.out
          ·exact hg.out j (by omega),by trivial⟩
         case measure=>simp [intOf]; omega
        ·have hx':(x != clampI x)=true:=by rw [bne_iff_ne]; exact hx
         go_wp2_with (go_at_call 137; refine (ZaR _ _).mono ?_; rintro e w' ⟨rfl,rfl⟩)
         go_ret
         exact ⟨Zad (by simp only [chkI,hr,hc,and_self,if_true,Zck (k:=k) (by rw [HX.out]; exact hx),Bool.false_eq_true,and_false,if_false]),hal⟩
       ·go_wp2
        go_ret
        exact ⟨Zad (by simp only [chkI,hr,hc,and_self,if_true,HL.out,ZbC (fun j hj=>hg.out j (by have:=ha'.len; omega))]),hal⟩
     ·have ht:((len:Int) != r * c)=true:=by rw [bne_iff_ne]; exact hl
      go_enter Tryz.func196,Tryz.ntmps196
      go_wp2_with (go_at_call 222; refine (ZbQ _ _).mono ?_; rintro e w' ⟨rfl,rfl⟩)
      go_ret
      exact ⟨Zad (by simp only [chkI,hr,hc,and_self,if_true,hl,false_and,if_false]),hal⟩
theorem both_calls (r c:Int) (a:Option Addr) (len cap:Nat) (xs:List Int) (v:Option Addr) (lv cv:Nat) (side:Int) (w:World) (ha:Lst w a len cap xs) :
  Calls Tryz.prog 223 #[.agg #[.int .i64 r,.int .i64 c,.slice a len cap],.slice v lv cv,.int .i64 side] w fun e w'=>e=.returned (.int .i64 (bothI r c len xs lv side))/\Below w.heap.size w w':=by
 have hal:=(Below.refl w.heap.size w).alloc nr (.cells #[.int .i64 r,.int .i64 c,.slice a len cap] 100)
 have hal2:=hal.alloc hal.size (.cells #[.slice v lv cv] 66)
 have ha':=ha.below hal2 nr
 clear hal ha
 by_cases hl:200 < lv
 ·have hd:decide (200 < lv)=true:=decide_eq_true hl
  go_enter Tryz.func223,Tryz.ntmps223
  go_wp2_with (go_at_call 199; refine (long1 _ _ _ _ _ (by simp)).mono ?_; rintro e w' ⟨rfl,rfl⟩; rw [hd])
  go_ret
  exact ⟨Zad (by simp only [bothI,if_pos hl]),hal2⟩
 ·have hd:decide (200 < lv)=false:=decide_eq_false hl
  rcases chkI_cases r c len xs with h0 | ⟨h0,h1,h2⟩
  ·have H0:Hid (chkI r c len xs=0):=h0
   clear h0
   by_cases hs:(lv:Int)=side
   ·have ht:((lv:Int) != side)=false:=by rw [bne_eq_false_iff_eq]; exact hs
    have HS:Hid ((lv:Int)=side):=hs
    clear hs
    go_enter Tryz.func223,Tryz.ntmps223
    go_wp2_with (first | (go_at_call 199; refine (long1 _ _ _ _ _ (by simp)).mono ?_; rintro e w' ⟨rfl,rfl⟩; rw [hd]) | (go_at_call 196; refine (ZbF _ _ _ _ _ xs _ ha').mono ?_; rintro e w' ⟨rfl,hw⟩; rw [H0.out]))
    go_ret
    exact ⟨Zad (by simp only [bothI,if_neg hl,if_pos H0.out,if_pos HS.out]),hal2.trans (hw.mono hal2.size)⟩
   ·have ht:((lv:Int) != side)=true:=by rw [bne_iff_ne]; exact hs
    go_enter Tryz.func223,Tryz.ntmps223
    go_wp2_with (first | (go_at_call 199; refine (long1 _ _ _ _ _ (by simp)).mono ?_; rintro e w' ⟨rfl,rfl⟩; rw [hd]) | (go_at_call 196; refine (ZbF _ _ _ _ _ xs _ ha').mono ?_; rintro e w' ⟨rfl,hw⟩; rw [H0.out]))
    go_ret
    exact ⟨Zad (by simp only [bothI,if_neg hl,if_pos H0.out,if_neg hs]),hal2.trans (hw.mono hal2.size)⟩
  ·go_enter Tryz.func223,Tryz.ntmps223
   go_wp2_with (first | (go_at_call 199; refine (long1 _ _ _ _ _ (by simp)).mono ?_; rintro e w' ⟨rfl,rfl⟩; rw [hd]) | (go_at_call 196; refine (ZbF _ _ _ _ _ xs _ ha').mono ?_; rintro e w' ⟨rfl,hw⟩))
   go_ret
   exact ⟨Zad (by simp only [bothI,if_neg hl,if_neg h0]),hal2.trans (hw.mono hal2.size)⟩
theorem row_calls (R C k:Nat) (a:Option Addr) (cap:Nat) (xs:List Int) (w:World) (ha:Lst w a (R * C) cap xs) (hR:R<=4) (hC0:1<=C) (hC:C<=4) (hk:k < R) :
  Calls Tryz.prog 224 #[.agg #[.int .i64 R,.int .i64 C,.slice a (R * C) cap],.int .i64 k] w fun e w'=>∃ a' c',e=.returned (.slice a' C c')/\Lst w' a' C c' (rowL xs C k)/\Below w.heap.size w w':=by
 have hal:=(Below.refl w.heap.size w).alloc nr (.cells #[.int .i64 R,.int .i64 C,.slice a (R * C) cap] 100)
 have h1:(k+1) * C<=R * C:=Nat.mul_le_mul_right _ hk
 have h2:=Zae hR hC
 have h3:(k+1) * C=k * C+C:=Nat.succ_mul _ _
 have h4:=ha.cap
 have e1:((k:Int)+1) * (C:Int)=((k * C+C:Nat):Int):=by rw [← h3]; push_cast; rfl
 have i1:0<=((k:Int)+1) * (C:Int):=by omega
 have i2:((k:Int)+1) * (C:Int)<=(cap:Int):=by omega
 have i3:(k:Int) * (C:Int)<=((k:Int)+1) * (C:Int):=by rw [e1]; push_cast; omega
 have i4:((k:Int)+1) * (C:Int)<=16:=by omega
 have e2:(((k:Int)+1) * (C:Int)).toNat=k * C+C:=by omega
 clear e1
 have hs:=(ha.below hal nr)
 obtain ⟨b,off,rfl,_,_⟩:=ha.at (by omega)
 have hs:=hs.sub (by omega) (k * C) (k * C+C) (by omega) (by omega)
 rw [Nat.add_sub_cancel_left,sub_range _ _ _ (by rw [ha.len]; omega)] at hs
 have hne:¬ cap=k * C:=by omega
 clear h3 ha
 go_enter Tryz.func224,Tryz.ntmps224
 go_wp2
 go_ret
 refine ⟨some ⟨b,off+k * C,none⟩,cap - k * C,?_,hs,hal⟩
 show Ending.returned (.slice _ (k * C+C - k * C) _)=_
 rw [Nat.add_sub_cancel_left]
theorem column_calls (R C k:Nat) (a:Option Addr) (cap:Nat) (xs:List Int) (w:World) (ha:Lst w a (R * C) cap xs) (hR:R<=4) (hC:C<=4) (hk:k < C) :
  Calls Tryz.prog 234 #[.agg #[.int .i64 R,.int .i64 C,.slice a (R * C) cap],.int .i64 k] w fun e w'=>∃ a' c',e=.returned (.slice a' R c')/\Lst w' a' R c' (colL xs R C k)/\Below w.heap.size w w':=by
 have hal:=(Below.refl w.heap.size w).alloc nr (.cells #[.int .i64 R,.int .i64 C,.slice a (R * C) cap] 100)
 have h2:=Zae hR hC
 have hmk:=run_make_row' (P:=Tryz.prog) 66 3 (.int .i64 0) 8 Tryz.underlying66 info3 rfl .i64 .i64 R (by omega) (by omega)
 go_enter Tryz.func234,Tryz.ntmps234
 go_wp2
 go_loopw [12] (fun i wr=>∃ j:Nat,j<=R/\i=.int .i64 j/\wr.rowIs (w.heap.size+1) 3 R (rowTo (fun i=>xs.getD (i * C+k) 0) j)/\Below (w.heap.size+1) (w.alloc (.cells #[.int .i64 R,.int .i64 C,.slice a (R * C) cap] 100)) wr) (fun i _=>R - (intOf i).toNat)
 case atStart=>exact ⟨0,Nat.zero_le _,rfl,ZaG (by have h:=World.rowIs_made (w.alloc (.cells #[.int .i64 R,.int .i64 C,.slice a (R * C) cap] 100)) (.int .i64 0) R 3; simpa using h),br.alloc (by simp) _⟩
 case round =>
  obtain ⟨j,hj,rfl,hrow,hbel⟩:=hrel
  have hbw:=hal.trans (hbel.mono (by omega))
  have ha':=ha.below hbw nr
  clear ha hal hmk
  by_cases hlt:j < R
  ·have m1:(j+1) * C<=R * C:=Nat.mul_le_mul_right _ hlt
   have m2:(j+1) * C=j * C+C:=Nat.succ_mul _ _
   obtain ⟨b1,o1,x,rfl,_,c1,HX⟩:=ha'.at1 (k:=j * C+k) (by omega)
   obtain ⟨_,f1,f2⟩:=box3 _ _ _ _ hbel (Nat.lt_succ_self _)
   have c3:=Zax hrow hlt
   have f3:=hrow.frozen j
   have i0:(0:Int)<=(j:Int) * (C:Int):=by exact_mod_cast Nat.zero_le (j * C)
   have i2:(j:Int) * (C:Int)+(k:Int) < (R:Int) * (C:Int):=by exact_mod_cast (by omega:j * C+k < R * C)
   have i3:(R:Int) * (C:Int)<=16:=by exact_mod_cast h2
   clear m2
   go_wp2
   go_roundw
   case rel =>
    have st:=Zaw (g:=fun i=>xs.getD (i * C+k) 0) hrow
    simp only [HX.out] at st
    exact ⟨j+1,by omega,by go_num,st,hbel.setCell (by simp) _⟩
   case measure=>simp [intOf]; omega
  ·go_wp2
   go_ret
   obtain rfl:j=R:=by omega
   exact ⟨_,_,rfl,Zbe hrow,hbw⟩
theorem Zbg {w w':World} {b t n:Nat} {f:Nat->Value} {B:Nat} (h:w.rowIs b t n f) (hb:Below B w w') (hB:b < B):w'.rowIs b t n f:=h.of_block (hb.block b hB)
theorem vMul_calls (r c:Int) (a:Option Addr) (len cap:Nat) (xs:List Int) (v:Option Addr) (lv cv:Nat) (ys:List Int) (w:World) (ha:Lst w a len cap xs) (hv:Lst w v lv cv ys) :
  Calls Tryz.prog 197 #[.agg #[.int .i64 r,.int .i64 c,.slice a len cap],.slice v lv cv] w fun e w'=>∃ a' n,e=.returned (.tuple #[.slice a' n n,.int .i64 (bothI r c len xs lv c)])/\n<=200/\Lst w' a' n n (mulL r c len xs lv ys)/\Below w.heap.size w w':=by
 unfold mulL
 have hal:=(Below.refl w.heap.size w).alloc nr (.cells #[.int .i64 r,.int .i64 c,.slice a len cap] 100)
 have ha0:=ha.below hal nr
 rcases bothI_cases r c len xs lv c with ⟨h0,hl,hz,hc⟩ | ⟨h0,h1⟩
 ·rw [if_pos h0]
  have H0:Hid (bothI r c len xs lv c=0):=h0
  clear h0
  obtain ⟨R,C,rfl,rfl,hR1,hR2,hC1,hC2,rfl,_⟩:=Zcl hz
  obtain rfl:lv=C:=by omega
  clear hz hc
  have hmk:=run_make_row' (P:=Tryz.prog) 66 3 (.int .i64 0) 8 Tryz.underlying66 info3 rfl .i64 .i64 R (by omega) (by omega)
  simp only [Int.toNat_natCast]
  go_enter Tryz.func197,Tryz.ntmps197
  go_wp2_with (go_at_call 223; refine (both_calls _ _ _ _ _ xs _ _ _ _ _ ha0).mono ?_; rintro e w1 ⟨rfl,hw1⟩; rw [H0.out]; obtain ⟨f0,f1,f2⟩:=box3 _ _ _ _ hw1 (by simp))
  have hbw1:=hal.trans (hw1.mono hal.size)
  have hs1:w.heap.size < w1.heap.size:=by have:=hw1.size; simp at this; omega
  go_loopw [22] (fun i wr=>∃ j:Nat,j<=R/\i=.int .i64 j/\wr.rowIs w1.heap.size 3 R (rowTo (mulG xs ys lv) j)/\Below w1.heap.size w1 wr) (fun i _=>R - (intOf i).toNat)
  case atStart=>exact ⟨0,Nat.zero_le _,rfl,ZaG (World.rowIs_made _ _ _ _),br.alloc nr _⟩
  case round =>
   obtain ⟨j,hj,rfl,hrow,hbel⟩:=hrel
   have hbw:=hbw1.trans (hbel.mono (by omega))
   have ha':=ha.below hbw nr
   have hv':=hv.below hbw nr
   have g0:=(hbel.cell (p:=⟨w.heap.size,0,none⟩) hs1).trans f0
   have g1:=(hbel.cell (p:=⟨w.heap.size,1,none⟩) hs1).trans f1
   have g2:=(hbel.cell (p:=⟨w.heap.size,2,none⟩) hs1).trans f2
   have hlt1:=hrow.lt
   clear ha hv hal hmk ha0 hw1 f0 f1 f2
   by_cases hlt:j < R
   ·go_wp2_with fail
    refine (row_calls R lv j a cap xs _ ha' hR2 hC1 hC2 hlt).mono ?_
    rintro e w2 ⟨a2,c2,rfl,hrw,hb2⟩
    have hv2:=hv'.below hb2 nr
    have hrow2:=Zbg hrow hb2 hlt1
    go_wp2_with fail
    refine (dot_calls a2 v lv c2 cv _ ys _ hrw hv2 (by omega)).mono ?_
    rintro e w3 ⟨rfl,nd,rfl⟩
    have c3:=Zax hrow2 hlt
    have f3:=hrow2.frozen j
    go_wp2
    go_roundw
    case rel =>
     have st:=Zaw (g:=mulG xs ys lv) hrow2
     exact ⟨j+1,by omega,by go_num,Zap st _,Zab ((hbel.trans (hb2.mono hbel.size)).setCell nr _) _⟩
    case measure=>simp [intOf]; omega
   ·go_wp2
    go_ret2
    obtain rfl:j=R:=by omega
    exact ⟨_,_,by rw [H0.out]; rfl,by omega,Zbe hrow,hbw⟩
 ·rw [if_neg h0]
  clear ha hv h0
  go_enter Tryz.func197,Tryz.ntmps197
  go_wp2_with (go_at_call 223; refine (both_calls _ _ _ _ _ xs _ _ _ _ _ ha0).mono ?_; rintro e w1 ⟨rfl,hw1⟩)
  go_ret2
  exact ⟨_,_,rfl,Nat.zero_le _,Lst.nil _ _ _,hal.trans (hw1.mono hal.size)⟩
end Go.Proofs.YthmiojmlaclgaaaGreatDoor.Fx
