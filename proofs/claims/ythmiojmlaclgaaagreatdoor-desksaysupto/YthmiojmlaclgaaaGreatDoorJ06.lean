/- What the law stands on: TreeA Halves TreeB TreeC TreeD TreeF OptA. -/
import Derived.Test.YthmiojmlaclgaaaGreatDoorJ00
import Derived.Test.YthmiojmlaclgaaaGreatDoorJ04
import Derived.Deep.RegionHeld3
import Derived.Test.YthmiojmlaclgaaaGreatDoorJ05
import Derived.Test.YthmiojmlaclgaaaGreatDoorJ01
set_option maxRecDepth 100000
set_option maxHeartbeats 12800000
namespace Go.Proofs.YthmiojmlaclgaaaGreatDoor.Fx
open Go.RowKit
theorem len64_low (x:Int) (h1:1<=x) (h2:x<=49) (w:World):Calls Tryz.prog 161 #[.int .u64 x] w fun e w'=>e=.returned (.int .i64 ((Nat.log2 x.toNat:Nat)+1))/\w'=w:=by
 have h:x=1\/x=2\/x=3\/x=4\/x=5\/x=6\/x=7\/x=8\/x=9\/x=10\/x=11\/x=12\/x=13\/x=14\/x=15\/x=16\/x=17\/x=18\/x=19\/x=20\/x=21\/x=22\/x=23\/x=24\/x=25\/x=26\/x=27\/x=28\/x=29\/x=30\/x=31\/x=32\/x=33\/x=34\/x=35\/x=36\/x=37\/x=38\/x=39\/x=40\/x=41\/x=42\/x=43\/x=44\/x=45\/x=46\/x=47\/x=48\/x=49:=by omega
 clear h1 h2
 rcases h with rfl | rfl | rfl | rfl | rfl | rfl | rfl | rfl | rfl | rfl | rfl | rfl | rfl | rfl | rfl | rfl | rfl | rfl | rfl | rfl | rfl | rfl | rfl | rfl | rfl | rfl | rfl | rfl | rfl | rfl | rfl | rfl | rfl | rfl | rfl | rfl | rfl | rfl | rfl | rfl | rfl | rfl | rfl | rfl | rfl | rfl | rfl | rfl | rfl
 all_goals
  go_enter Tryz.func161,Tryz.ntmps161
  go_wp2
  go_ret
  exact ⟨by kernel_rfl,rfl⟩
theorem len_low (x:Int) (h1:1<=x) (h2:x<=49) (w:World):Calls Tryz.prog 245 #[.int .u64 x] w fun e w'=>e=.returned (.int .i64 ((Nat.log2 x.toNat:Nat)+1))/\w'=w:=by
 go_enter Tryz.func245,Tryz.ntmps245
 go_wp2_with (go_at_call 161; refine (len64_low _ h1 h2 _).mono ?_; rintro e w' ⟨rfl,hw'⟩; replace hw':=hw'.symm; subst hw')
 go_ret
 exact ⟨rfl,rfl⟩
theorem log2_low:∀ x:Nat,x < 50->0 < x->Nat.log2 x < 6:=by decide +kernel
theorem split_calls (n:Nat) (h1:2<=n) (h2:n<=50) (w:World):Calls Tryz.prog 242 #[.int .i64 n] w fun e w'=>e=.returned (.int .i64 (cutN n))/\w'=w:=by
 unfold cutN
 obtain ⟨j,hj⟩:∃ j,Nat.log2 (n - 1)=j:=⟨_,rfl⟩
 have hj6:j < 6:=by rw [← hj]; exact log2_low _ (by omega) (by omega)
 have HJ:Hid (Nat.log2 ((n:Int) - 1).toNat=j):=by rw [show ((n:Int) - 1).toNat=n - 1 from by omega]; exact hj
 rw [hj]
 clear hj
 rcases (show j=0\/j=1\/j=2\/j=3\/j=4\/j=5 from by omega) with rfl | rfl | rfl | rfl | rfl | rfl
 all_goals
  go_enter Tryz.func242,Tryz.ntmps242
  go_wp2_with (go_at_call 245; refine (len_low _ (by omega) (by omega) _).mono ?_; rintro e w' ⟨rfl,hw'⟩; replace hw':=hw'.symm; subst hw'; rw [HJ.out])
  go_ret
  exact ⟨rfl,rfl⟩
theorem LstW.head {w:World} {b off n c:Nat} {xs:List Int} (h:LstW w (some ⟨b,off,none⟩) n c xs) (hn:0 < n) {k:Nat} (hk:k<=n):LstW w (some ⟨b,off,none⟩) k c (xs.take k):=by
 simpa using h.sub hn 0 k (Nat.zero_le _) hk
theorem LstW.tail {w:World} {b off n c:Nat} {xs:List Int} (h:LstW w (some ⟨b,off,none⟩) n c xs) (hn:0 < n) {k:Nat} (hk:k<=n):LstW w (some ⟨b,off+k,none⟩) (n - k) (c - k) (xs.drop k):=by
 have h1:=h.sub hn k n hk nr
 rwa [List.take_of_length_le (by rw [List.length_drop,h.len]; exact nr)] at h1
theorem top_calls:∀ (m:Nat) (a:Option Addr) (n c:Nat) (xs:List Int) (w:World),n<=m->1<=n->n<=50->LstW w a n c xs->okL xs ->
  Calls Tryz.prog 238 #[.slice a n c] w fun e w'=>e=.returned (.int .u64 (treeP xs))/\Below w.heap.size w w'
 | 0,a,n,c,xs,w,h,h1,h2,ha,hx=>by omega
 | m + 1, a, n, c, xs, w, h, h1, h2, ha, hx => by
   have IH:Hid (∀ (a:Option Addr) (n c:Nat) (xs:List Int) (w:World),n<=m->1<=n->n<=50->LstW w a n c xs->okL xs ->
    Calls Tryz.prog 238 #[.slice a n c] w fun e w'=>e=.returned (.int .u64 (treeP xs))/\Below w.heap.size w w'):=top_calls m
   have HL:=ha.len
   have HK:=ha.cap
   obtain ⟨b,off,x,rfl,hb,h0,HX⟩:=ha.at1 (k:=0) (by omega)
   rw [Nat.add_zero] at h0
   by_cases h3:n=1
   ·have n1:((n:Int) == 1)=true:=by rw [beq_iff_eq]; omega
    have HT:Hid (treeP xs=x):=by rw [treeP_one (by omega)]; exact HX.out
    clear ha h3
    go_enter Tryz.func238,Tryz.ntmps238
    go_wp2
    go_ret
    exact ⟨ZaV HT.out.symm,br⟩
   ·have hc:=cutN_lt (n:=n) (by omega)
    have HT:Hid (treeP xs=ofP 3 [treeP (xs.take (cutN n)),treeP (xs.drop (cutN n))]):=by rw [← HL]; exact treeP_two (by omega)
    have HC:Hid (∀ w,Calls Tryz.prog 242 #[.int .i64 n] w fun e w'=>e=.returned (.int .i64 (cutN n))/\w'=w):=split_calls n (by omega) (by omega)
    generalize cutN n=k at *
    have hA:=ha.head (by omega) (k:=k) (by omega)
    have hB:=ha.tail (by omega) (k:=k) (by omega)
    have oA:=okL_take hx k
    have oB:=okL_drop hx k
    have tA:Hid (okW (treeP (xs.take k))):=ZcI oA (by rw [hA.len]; omega)
    have tB:Hid (okW (treeP (xs.drop k))):=ZcI oB (by rw [hB.len]; omega)
    have n1:((n:Int) == 1)=false:=by rw [beq_eq_false_iff_ne]; omega
    have k0:(0:Int)<=(k:Int):=by omega
    have k1:(k:Int)<=(n:Int):=by omega
    have k2:(n:Int)<=(c:Int):=by omega
    have k3:(k:Int)<=(c:Int):=by omega
    have k4:¬ c=k:=by omega
    clear ha
    go_enter Tryz.func238,Tryz.ntmps238
    go_wp2_with (go_at_call 242; refine (HC.out _).mono ?_; rintro e w' ⟨rfl,hw'⟩; replace hw':=hw'.symm; subst hw')
    go_region_held3 (fun _=>True) (exact True.intro) (first | (go_at_call 238; refine (IH.out _ _ _ (xs.take k) _ (by omega) (by omega) (by omega) (by first | exact hA | exact hA.drewN _) oA).mono ?_; rintro e w1 ⟨rfl,hw1⟩) | (go_at_call 238; refine (IH.out _ _ _ (xs.drop k) _ (by omega) (by omega) (by omega) (by first | exact hB.below hw1 nr | exact (hB.drewN _).below hw1 nr) oB).mono ?_; rintro e w2 ⟨rfl,hw2⟩) | (go_at_call 237; refine (dPair_calls _ _ tA.out tB.out _).mono ?_; rintro e w3 ⟨rfl,hw3⟩))
    go_wp2
    go_ret
    have e1:Below w.heap.size w w1:=(Zab br 1).trans hw1
    have e2:=e1.trans (hw2.mono e1.size)
    exact ⟨ZaV HT.out.symm,e2.trans (hw3.mono e2.size)⟩


def errL (n:Nat):Int:=if n=0 then 1 else if 200 < n then 2 else 0
def rootL (xs:List Int) (n:Nat):Int:=if n=0\/200 < n then 0 else ofP 3 [(n:Int),treeP (leavesP xs n)]
def okC (i n:Int):Prop:=1<=n/\n<=200/\0<=i/\i < (n+3) / 4
instance (i n:Int):Decidable (okC i n):=by unfold okC; infer_instance
theorem leaves_bad (a:Option Addr) (n c:Nat) (w:World) (h:n=0\/200 < n) :
  Calls Tryz.prog 236 #[.slice a n c] w fun e w'=>e=.returned (.tuple #[.slice none 0 0,.int .i64 (errL n)])/\w'=w:=by
 by_cases h0:n=0
 ·have HE:Hid (errL n=1):=if_pos h0
  have n0:((n:Int) == 0)=true:=by rw [beq_iff_eq]; omega
  go_enter Tryz.func236,Tryz.ntmps236
  go_wp2
  go_ret2
  exact ⟨by rw [HE.out]; rfl,rfl⟩
 ·have HE:Hid (errL n=2):=by show errL n=2; unfold errL; rw [if_neg h0,if_pos (by omega)]
  have n0:((n:Int) == 0)=false:=by rw [beq_eq_false_iff_ne]; omega
  have n2:200 < n:=by omega
  go_enter Tryz.func236,Tryz.ntmps236
  go_wp2
  go_ret2
  exact ⟨by rw [HE.out]; rfl,rfl⟩
theorem root_good (a:Option Addr) (n c:Nat) (xs:List Int) (w:World) (ha:Lst w a n c xs) (h1:1<=n) (h2:n<=200) :
  Calls Tryz.prog 228 #[.slice a n c] w fun e w'=>e=.returned (.tuple #[.int .u64 (ofP 3 [(n:Int),treeP (leavesP xs n)]),.int .i64 0])/\Below w.heap.size w w':=by
 have ht:=ZcI (ZcJ xs n) (by rw [leavesP_len]; omega)
 have hn:okW (n:Int):=⟨by omega,by omega⟩
 go_enter Tryz.func228,Tryz.ntmps228
 go_wp2_with (first | (go_at_call 236; refine (leaves_calls _ _ _ xs _ ha h1 h2).mono ?_; rintro e w1 ⟨a1,rfl,hl1,hw1⟩) | (go_at_call 238; refine (top_calls 50 _ _ _ (leavesP xs n) _ (by omega) (by omega) (by omega) hl1 (ZcJ _ _)).mono ?_; rintro e w2 ⟨rfl,hw2⟩) | (go_at_call 237; refine (dPair_calls _ _ hn ht _).mono ?_; rintro e w3 ⟨rfl,hw3⟩))
 go_ret2
 have e2:=hw1.trans (hw2.mono hw1.size)
 exact ⟨rfl,e2.trans (hw3.mono e2.size)⟩
theorem errL_ne {n:Nat} (h:n=0\/200 < n):(errL n != 0)=true:=by
 unfold errL
 by_cases h0:n=0
 ·rw [if_pos h0]; rfl
 ·rw [if_neg h0,if_pos (by omega)]; rfl
theorem Root_calls (a:Option Addr) (n c:Nat) (xs:List Int) (w:World) (ha:Lst w a n c xs) :
  Calls Tryz.prog 228 #[.slice a n c] w fun e w'=>e=.returned (.tuple #[.int .u64 (rootL xs n),.int .i64 (errL n)])/\Below w.heap.size w w':=by
 unfold rootL
 by_cases h:n=0\/200 < n
 ·rw [if_pos h]
  have he:=errL_ne h
  have HB:Hid (∀ w,Calls Tryz.prog 236 #[.slice a n c] w fun e w'=>e=.returned (.tuple #[.slice none 0 0,.int .i64 (errL n)])/\w'=w):=fun w=>leaves_bad a n c w h
  generalize errL n=E at *
  clear h
  go_enter Tryz.func228,Tryz.ntmps228
  go_wp2_with (go_at_call 236; refine (HB.out _).mono ?_; rintro e w' ⟨rfl,hw'⟩; replace hw':=hw'.symm; subst hw')
  go_ret2
  exact ⟨rfl,br⟩
 ·rw [if_neg h]
  refine (root_good a n c xs w ha (by omega) (by omega)).mono ?_
  rintro e w' ⟨rfl,h2⟩
  exact ⟨by unfold errL; rw [if_neg (by omega),if_neg (by omega)],h2⟩
theorem ZaI (n lo hi:Int) (w:World):Calls Tryz.prog 89 #[.int .i64 n,.int .i64 lo,.int .i64 hi] w fun e w'=>e=.returned (.bool (inB n lo hi))/\w'=w:=by
 unfold inB
 by_cases h1:lo<=n
 ·by_cases h2:n<=hi
  ·go_enter Tryz.func89,Tryz.ntmps89
   go_wp2
   go_ret
   exact ⟨Zai (by simp [h1,h2]),rfl⟩
  ·go_enter Tryz.func89,Tryz.ntmps89
   go_wp2
   go_ret
   exact ⟨Zai (by simp; omega),rfl⟩
 ·go_enter Tryz.func89,Tryz.ntmps89
  go_wp2
  go_ret
  exact ⟨Zai (by simp; omega),rfl⟩
theorem oside_calls (n:Int) (w:World):Calls Tryz.prog 88 #[.int .i64 n] w fun e w'=>e=.returned (.bool (inB n 1 4))/\w'=w:=by
 go_enter Tryz.func88,Tryz.ntmps88
 go_wp2_with (go_at_call 89; refine (ZaI _ _ _ _).mono ?_; rintro e w' ⟨rfl,hw'⟩; replace hw':=hw'.symm; subst hw')
 go_ret
 exact ⟨rfl,rfl⟩
-- LEMMAS
theorem bad1 {x1 x2 x3 x4 x5 x6 x7 x8 x9 x10:Bool} (h:x1=false):(1:Int)=if (x1 && x2 && x3 && x4 && x5 && x6 && x7 && x8 && x9 && x10)=true then 0 else 1:=by subst h; simp
theorem bad2 {x1 x2 x3 x4 x5 x6 x7 x8 x9 x10:Bool} (h:x2=false):(1:Int)=if (x1 && x2 && x3 && x4 && x5 && x6 && x7 && x8 && x9 && x10)=true then 0 else 1:=by subst h; simp
theorem bad3 {x1 x2 x3 x4 x5 x6 x7 x8 x9 x10:Bool} (h:x3=false):(1:Int)=if (x1 && x2 && x3 && x4 && x5 && x6 && x7 && x8 && x9 && x10)=true then 0 else 1:=by subst h; simp
theorem bad4 {x1 x2 x3 x4 x5 x6 x7 x8 x9 x10:Bool} (h:x4=false):(1:Int)=if (x1 && x2 && x3 && x4 && x5 && x6 && x7 && x8 && x9 && x10)=true then 0 else 1:=by subst h; simp
theorem bad5 {x1 x2 x3 x4 x5 x6 x7 x8 x9 x10:Bool} (h:x5=false):(1:Int)=if (x1 && x2 && x3 && x4 && x5 && x6 && x7 && x8 && x9 && x10)=true then 0 else 1:=by subst h; simp
theorem bad6 {x1 x2 x3 x4 x5 x6 x7 x8 x9 x10:Bool} (h:x6=false):(1:Int)=if (x1 && x2 && x3 && x4 && x5 && x6 && x7 && x8 && x9 && x10)=true then 0 else 1:=by subst h; simp
theorem bad7 {x1 x2 x3 x4 x5 x6 x7 x8 x9 x10:Bool} (h:x7=false):(1:Int)=if (x1 && x2 && x3 && x4 && x5 && x6 && x7 && x8 && x9 && x10)=true then 0 else 1:=by subst h; simp
theorem bad8 {x1 x2 x3 x4 x5 x6 x7 x8 x9 x10:Bool} (h:x8=false):(1:Int)=if (x1 && x2 && x3 && x4 && x5 && x6 && x7 && x8 && x9 && x10)=true then 0 else 1:=by subst h; simp
theorem bad9 {x1 x2 x3 x4 x5 x6 x7 x8 x9 x10:Bool} (h:x9=false):(1:Int)=if (x1 && x2 && x3 && x4 && x5 && x6 && x7 && x8 && x9 && x10)=true then 0 else 1:=by subst h; simp
theorem bad10 {x1 x2 x3 x4 x5 x6 x7 x8 x9 x10:Bool} (h:x10=false):(1:Int)=if (x1 && x2 && x3 && x4 && x5 && x6 && x7 && x8 && x9 && x10)=true then 0 else 1:=by subst h; simp
theorem bad0 {x1 x2 x3 x4 x5 x6 x7 x8 x9 x10:Bool} (h1:x1=true) (h2:x2=true) (h3:x3=true) (h4:x4=true) (h5:x5=true) (h6:x6=true) (h7:x7=true) (h8:x8=true) (h9:x9=true) (h10:x10=true):(0:Int)=if (x1 && x2 && x3 && x4 && x5 && x6 && x7 && x8 && x9 && x10)=true then 0 else 1:=by subst h1 h2 h3 h4 h5 h6 h7 h8 h9 h10; rfl
theorem not_t {x:Bool} (h:(!x)=true):x=false:=by cases x with
 | false=>rfl
 | true=>cases h
theorem not_f {x:Bool} (h:(!x)=false):x=true:=by cases x with
 | false=>cases h
 | true=>rfl
theorem no_t {x:Bool} (h:¬ x=true):x=false:=by cases x with
 | false=>rfl
 | true=>exact absurd rfl h
-- END LEMMAS
-- WALK
theorem Zbb (c:Cfg) (w:World):Calls Tryz.prog 55 #[c.val] w fun e w'=>e=.returned (.int .i64 (cfgI c))/\Below w.heap.size w w':=by
 have hal:=(Below.refl w.heap.size w).alloc nr (.cells c.cells 50)
 obtain ⟨i,h,o,seed,batch,steps,rate,decay,how,keep,clip⟩:=c
 simp only [Cfg.val,Cfg.cells] at *
 unfold cfgI cfgB
 dsimp only
 obtain ⟨x1,X1⟩:=nm (inB i 1 4)
 obtain ⟨x2,X2⟩:=nm (inB h 1 4)
 obtain ⟨x3,X3⟩:=nm (inB o 1 4)
 obtain ⟨x4,X4⟩:=nm (inB batch 1 8)
 obtain ⟨x5,X5⟩:=nm (inB steps 1 40)
 obtain ⟨x6,X6⟩:=nm (inB rate 0 2147483647)
 obtain ⟨x7,X7⟩:=nm (inB decay 0 1)
 obtain ⟨x8,X8⟩:=nm (inB how 0 1)
 obtain ⟨x9,X9⟩:=nm (inB keep 0 65536)
 obtain ⟨x10,X10⟩:=nm (inB clip 0 2147483647)
 rw [X1.out,X2.out,X3.out,X4.out,X5.out,X6.out,X7.out,X8.out,X9.out,X10.out]
 obtain ⟨E,HE⟩:=nm (α:=Int) ((if (x1 && x2 && x3 && x4 && x5 && x6 && x7 && x8 && x9 && x10)=true then 0 else 1))
 rw [HE.out]
 go_enter Tryz.func55,Tryz.ntmps55
 go_wp2_with (first | (go_at_call 88; refine (oside_calls _ _).mono ?_; rintro e w' ⟨rfl,hw'⟩; replace hw':=hw'.symm; subst hw'; first | rw [X1.out] | rw [X2.out] | rw [X3.out]) | (go_at_call 89; refine (ZaI _ _ _ _).mono ?_; rintro e w' ⟨rfl,hw'⟩; replace hw':=hw'.symm; subst hw'; first | rw [X4.out] | rw [X5.out] | rw [X6.out] | rw [X7.out] | rw [X8.out] | rw [X9.out] | rw [X10.out]))
 all_goals go_ret
 all_goals first | exact ⟨Zad ((bad1 (by first | with_reducible assumption | exact not_t (by with_reducible assumption) | exact no_t (by with_reducible assumption))).trans HE.out),hal⟩ | exact ⟨Zad ((bad2 (by first | with_reducible assumption | exact not_t (by with_reducible assumption) | exact no_t (by with_reducible assumption))).trans HE.out),hal⟩ | exact ⟨Zad ((bad3 (by first | with_reducible assumption | exact not_t (by with_reducible assumption) | exact no_t (by with_reducible assumption))).trans HE.out),hal⟩ | exact ⟨Zad ((bad4 (by first | with_reducible assumption | exact not_t (by with_reducible assumption) | exact no_t (by with_reducible assumption))).trans HE.out),hal⟩ | exact ⟨Zad ((bad5 (by first | with_reducible assumption | exact not_t (by with_reducible assumption) | exact no_t (by with_reducible assumption))).trans HE.out),hal⟩ | exact ⟨Zad ((bad6 (by first | with_reducible assumption | exact not_t (by with_reducible assumption) | exact no_t (by with_reducible assumption))).trans HE.out),hal⟩ | exact ⟨Zad ((bad7 (by first | with_reducible assumption | exact not_t (by with_reducible assumption) | exact no_t (by with_reducible assumption))).trans HE.out),hal⟩ | exact ⟨Zad ((bad8 (by first | with_reducible assumption | exact not_t (by with_reducible assumption) | exact no_t (by with_reducible assumption))).trans HE.out),hal⟩ | exact ⟨Zad ((bad9 (by first | with_reducible assumption | exact not_t (by with_reducible assumption) | exact no_t (by with_reducible assumption))).trans HE.out),hal⟩ | exact ⟨Zad ((bad10 (by first | with_reducible assumption | exact not_t (by with_reducible assumption) | exact no_t (by with_reducible assumption))).trans HE.out),hal⟩ | exact ⟨Zad ((bad0 (by first | with_reducible assumption | exact not_f (by with_reducible assumption)) (by first | with_reducible assumption | exact not_f (by with_reducible assumption)) (by first | with_reducible assumption | exact not_f (by with_reducible assumption)) (by first | with_reducible assumption | exact not_f (by with_reducible assumption)) (by first | with_reducible assumption | exact not_f (by with_reducible assumption)) (by first | with_reducible assumption | exact not_f (by with_reducible assumption)) (by first | with_reducible assumption | exact not_f (by with_reducible assumption)) (by first | with_reducible assumption | exact not_f (by with_reducible assumption)) (by first | with_reducible assumption | exact not_f (by with_reducible assumption)) (by first | with_reducible assumption | exact not_f (by with_reducible assumption))).trans HE.out),hal⟩
-- END WALK
theorem rate_calls (c:Cfg) (step:Int) (w:World):Calls Tryz.prog 135 #[c.val,.int .i64 step] w fun e w'=>e=.returned (.tuple #[.int .i64 (rateI c step),.int .i64 (rateE c step)])/\Below w.heap.size w w':=by
 have hal:=(Below.refl w.heap.size w).alloc nr (.cells c.cells 50)
 cases hc:cfgB c with
 | false =>
   have HI:Hid (cfgI c=1):=cfgI_no hc
   have HR:Hid (rateI c step=0):=if_neg (fun g=>by rw [hc] at g; cases g.1)
   have HE:Hid (rateE c step=1):=if_neg (fun g=>by rw [hc] at g; cases g.1)
   rw [HR.out,HE.out]
   have K:=Zbb c (w.alloc (.cells c.cells 50))
   rw [HI.out] at K
   have HK:Hid (Calls Tryz.prog 55 #[c.val] (w.alloc (.cells c.cells 50)) fun e w'=>e=.returned (.int .i64 1)/\Below (w.alloc (.cells c.cells 50)).heap.size (w.alloc (.cells c.cells 50)) w'):=K
   clear K hc HI HR HE
   obtain ⟨i,h,o,seed,batch,steps,rate,decay,how,keep,clip⟩:=c
   simp only [Cfg.val,Cfg.cells] at *
   go_enter Tryz.func135,Tryz.ntmps135
   go_wp2_with fail
   refine HK.out.mono ?_
   rintro e w1 ⟨rfl,hw1⟩
   go_wp2
   go_ret2
   exact ⟨rfl,hal.trans (hw1.mono hal.size)⟩
 | true =>
   obtain ⟨_,_,_,_,⟨s1,s2⟩,⟨r1,r2⟩,⟨d1,d2⟩,_⟩:=Zal hc
   have K:=Zbb c (w.alloc (.cells c.cells 50))
   rw [ZcC hc] at K
   obtain ⟨R,HR⟩:=nm (rateI c step)
   obtain ⟨E,HE⟩:=nm (rateE c step)
   rw [HR.out,HE.out]
   have HR':=HR.out
   have HE':=HE.out
   unfold rateI at HR'
   unfold rateE at HE'
   cases hs:inB step 0 (c.steps - 1) with
   | false =>
     rw [if_neg (fun g=>by rw [hs] at g; cases g.2)] at HR' HE'
     subst HR' HE'
     have HS:Hid (inB step 0 (c.steps - 1)=false):=hs
     have HK:Hid (Calls Tryz.prog 55 #[c.val] (w.alloc (.cells c.cells 50)) fun e w'=>e=.returned (.int .i64 0)/\Below (w.alloc (.cells c.cells 50)).heap.size (w.alloc (.cells c.cells 50)) w'):=K
     clear K hs HR HE hc
     obtain ⟨i,h,o,seed,batch,steps,rate,decay,how,keep,clip⟩:=c
     simp only [Cfg.val,Cfg.cells] at *
     go_enter Tryz.func135,Tryz.ntmps135
     go_wp2_with fail
     refine HK.out.mono ?_
     rintro e w1 ⟨rfl,hw1⟩
     obtain ⟨c0,c1,c2,c3,c4,c5,c6,c7,c8,c9,c10⟩:=boxC (c:=⟨i,h,o,seed,batch,steps,rate,decay,how,keep,clip⟩) hw1 (by simp)
     go_wp2_with (go_at_call 89; refine (ZaI _ _ _ _).mono ?_; rintro e w' ⟨rfl,hw'⟩; replace hw':=hw'.symm; subst hw'; rw [HS.out])
     go_ret2
     exact ⟨rfl,hal.trans (hw1.mono hal.size)⟩
   | true =>
     rw [if_pos ⟨hc,hs⟩] at HR' HE'
     have HS:Hid (inB step 0 (c.steps - 1)=true):=hs
     have hst:=in_is hs
     subst HE'
     have HV:Hid (rateV c step=R):=HR'
     have HK:Hid (Calls Tryz.prog 55 #[c.val] (w.alloc (.cells c.cells 50)) fun e w'=>e=.returned (.int .i64 0)/\Below (w.alloc (.cells c.cells 50)).heap.size (w.alloc (.cells c.cells 50)) w'):=K
     clear K hs HR HE HR' hc
     obtain ⟨i,h,o,seed,batch,steps,rate,decay,how,keep,clip⟩:=c
     simp only [Cfg.val,Cfg.cells] at *
     by_cases hd:decay=0
     ·have hd':(decay == 0)=true:=by simpa using hd
      have hv:rate=R:=by
       have:=HV.out
       unfold rateV at this
       dsimp only at this
       rw [if_neg (by omega)] at this
       exact this
      subst hv
      clear hd
      go_enter Tryz.func135,Tryz.ntmps135
      go_wp2_with fail
      refine HK.out.mono ?_
      rintro e w1 ⟨rfl,hw1⟩
      obtain ⟨c0,c1,c2,c3,c4,c5,c6,c7,c8,c9,c10⟩:=boxC (c:=⟨i,h,o,seed,batch,steps,rate,decay,how,keep,clip⟩) hw1 (by simp)
      go_wp2_with (go_at_call 89; refine (ZaI _ _ _ _).mono ?_; rintro e w' ⟨rfl,hw'⟩; replace hw':=hw'.symm; subst hw'; rw [HS.out])
      go_ret2
      exact ⟨rfl,hal.trans (hw1.mono hal.size)⟩
     ·have hd':(decay == 0)=false:=by simpa using hd
      have hv:mulI rate (divI (steps - step) steps)=R:=by
       have:=HV.out
       unfold rateV at this
       dsimp only at this
       rw [if_pos (by omega)] at this
       exact this
      subst hv
      clear hd HV
      go_enter Tryz.func135,Tryz.ntmps135
      go_wp2_with fail
      refine HK.out.mono ?_
      rintro e w1 ⟨rfl,hw1⟩
      obtain ⟨c0,c1,c2,c3,c4,c5,c6,c7,c8,c9,c10⟩:=boxC (c:=⟨i,h,o,seed,batch,steps,rate,decay,how,keep,clip⟩) hw1 (by simp)
      dsimp only at c0 c1 c2 c3 c4 c5 c6 c7 c8 c9 c10
      go_wp2_with (first | (go_at_call 89; refine (ZaI _ _ _ _).mono ?_; rintro e w' ⟨rfl,hw'⟩; replace hw':=hw'.symm; subst hw'; rw [HS.out]) | (go_at_call 185; refine (div_calls _ _ _ (by omega)).mono ?_; rintro e w' ⟨rfl,k1,hw'⟩; subst hw') | (go_at_call 190; refine (ZbP _ _ _).mono ?_; rintro e w' ⟨rfl,k2,hw'⟩; subst hw'))
      go_ret2
      exact ⟨rfl,Zab (hal.trans (hw1.mono hal.size)) _⟩
end Go.Proofs.YthmiojmlaclgaaaGreatDoor.Fx
