/- What the law stands on: Tk Fix Lists Mats Pups Opts Dig DigA Words DigB Tris DigC DigD. -/
import Derived.WalkKit
import Derived.Deep.RegionHeld3
import Derived.BigRegion
import Derived.Deep.RegionWith
import Derived.Deep.OwnRows
import Derived.Deep.Draws
import Derived.Test.YthmiojmlaclgaaaGreatDoorRows
import Derived.Deep.QuietTactic
import Derived.BigQuiet
import Derived.Shelf.Bits.Mul64
set_option maxRecDepth 100000
set_option maxHeartbeats 12800000
namespace Go.Proofs.YthmiojmlaclgaaaGreatDoor.Fx
open Go.RowKit
section
/- Steps of a region that draws its order, said shortly: an operation that is taken first, one that is passed over, one that comes up. -/
section
variable {P : Program} {ops : Array Oper} {Q : Exit → Act → World → Prop} {md : Region.Mode} {S : World → Prop}
theorem tk (i : Nat) {oi : Oper} {v : Value} {fuel : Nat} {listed : Array Bool} {a a' : Act} {w : World} (hi : ops[i]? = some oi := by rfl)
    (hs : Region.noSelect ops = true := by kernel_rfl) (hf : Region.free md ops listed i = true := by kernel_rfl) (hr : (Region.ready md ops listed).contains i = true := by kernel_rfl)
    (hQ : ∀ c a w, Q (.panic c) (a.put oi.dst v) w → Q (.panic c) a w := by exact fun _ _ _ h => h) (hw : Region.wanted oi (yielded ops a.tmps) = true := by rfl)
    (hy : ∀ w, S w → (execOp a.eval oi).run P w = .ok (.value v) w := by (intro w hSw; try dsimp only at hSw); go_simp; try with_reducible rfl) (hS : S w := by assumption)
    (ha : a.put oi.dst v = a' := by simp only [Act.put, List.getElem_toArray, List.getElem_cons_zero, List.getElem_cons_succ, List.setIfInBounds_toArray, List.set_cons_zero, List.set_cons_succ]; try rfl)
    (h : wpAnyH P md ops Q S fuel (listed.setIfInBounds i true) a' w) : wpAnyH P md ops Q S (fuel + 1) listed a w :=
  wpAnyH_take hi hs hf hr hQ (.inl ⟨hw, hy⟩) hS (ha ▸ h)
theorem tko (i : Nat) {oi : Oper} {fuel : Nat} {listed : Array Bool} {a a' : Act} {w : World} (hi : ops[i]? = some oi := by rfl)
    (hs : Region.noSelect ops = true := by kernel_rfl) (hf : Region.free md ops listed i = true := by kernel_rfl) (hr : (Region.ready md ops listed).contains i = true := by kernel_rfl)
    (hQ : ∀ c a w, Q (.panic c) (a.put oi.dst undef) w → Q (.panic c) a w := by exact fun _ _ _ h => h) (hw : Region.wanted oi (yielded ops a.tmps) = false := by rfl) (hS : S w := by assumption)
    (ha : a.put oi.dst undef = a' := by simp only [Act.put, List.getElem_toArray, List.getElem_cons_zero, List.getElem_cons_succ, List.setIfInBounds_toArray, List.set_cons_zero, List.set_cons_succ]; try rfl)
    (h : wpAnyH P md ops Q S fuel (listed.setIfInBounds i true) a' w) : wpAnyH P md ops Q S (fuel + 1) listed a w :=
  wpAnyH_take hi hs hf hr hQ (.inr ⟨hw, rfl⟩) hS (ha ▸ h)
theorem rd (i : Nat) {o : Oper} {fuel : Nat} {listed : Array Bool} {a : Act} {w : World} (hr : Region.ready md ops listed = [i] := by kernel_rfl) (ho : ops[i]? = some o := by rfl)
    (h : ∀ K' : Act → World → Prop, Shut (∀ a w, S w → (S w → wpAnyH P md ops Q S fuel (listed.setIfInBounds i true) a w) → K' a w) → if Region.wanted o (yielded ops a.tmps) = true then Oper.wp P o a w K' Q else K' (a.put o.dst undef) w) : wpAnyH P md ops Q S (fuel + 1) listed a w :=
  wpAnyH_ready hr (by simp) (AllReadyH.cons ho h AllReadyH.nil)
end
theorem nm {α : Type} (x : α) : ∃ y, Hid (x = y) := ⟨x, rfl⟩
theorem nr {n : Nat} : n ≤ n := Nat.le_refl n
theorem br {B : Nat} {w : World} : Below B w w := Below.refl B w
end
def clampI (n:Int):Int:=if n < -2147483647 then -2147483647 else if 2147483647 < n then 2147483647 else n
def rnd (n d:Int):Int:=if d < 2 * (n % d)\/(2 * (n % d)=d/\(n / d) % 2 ≠ 0) then n / d+1 else n / d
def quoI (n d:Int):Int:=if d < 0 then rnd (-n) (-d) else rnd n d
def addI (a b:Int):Int:=clampI (clampI a+clampI b)
def subI (a b:Int):Int:=clampI (clampI a - clampI b)
def mulI (a b:Int):Int:=clampI (rnd (clampI a * clampI b) 65536)
def divI (a b:Int):Int:=clampI (quoI (clampI a * 65536) (clampI b))
theorem Zav (n:Int):-2147483647<=clampI n/\clampI n<=2147483647:=by unfold clampI; split <;> (try split) <;> omega
theorem ZbB {n:Int} (h0:-2147483647<=n) (h1:n<=2147483647):clampI n=n:=by unfold clampI; rw [if_neg (by omega),if_neg (by omega)]
theorem ZaO (n:Int):clampI (clampI n)=clampI n:=ZbB (Zav n).1 (Zav n).2
theorem clampI_neg (n:Int):clampI (-n) = -clampI n:=by unfold clampI; (repeat' split) <;> omega
theorem ZbU {a b:Int} (h:a<=b):clampI a<=clampI b:=by unfold clampI; (repeat' split) <;> omega
theorem clampI_ne {n:Int} (h:n ≠ 0):clampI n ≠ 0:=by unfold clampI; (repeat' split) <;> omega
theorem prod_bd (x y:Int) (hx:-2147483647<=x/\x<=2147483647) (hy:-2147483647<=y/\y<=2147483647):-4611686014132420609<=x * y/\x * y<=4611686014132420609:=by
 have h1:x.natAbs<=2147483647:=by omega
 have h2:y.natAbs<=2147483647:=by omega
 have h3:x.natAbs * y.natAbs<=2147483647 * 2147483647:=Nat.mul_le_mul h1 h2
 have h4:(x * y).natAbs=x.natAbs * y.natAbs:=Int.natAbs_mul x y
 omega
theorem rnd_near (n d:Int) (hd:0 < d):-d<=2 * (n - rnd n d * d)/\2 * (n - rnd n d * d)<=d/\(2 * (n - rnd n d * d)=d\/2 * (n - rnd n d * d) = -d->rnd n d % 2=0):=by
 have e:=Int.mul_ediv_add_emod n d
 have l:=Int.emod_nonneg n (b:=d) (by omega)
 have u:=Int.emod_lt_of_pos n hd
 unfold rnd
 generalize n / d=q at *
 generalize n % d=r at *
 have c:q * d=d * q:=Int.mul_comm q d
 split
 ·have m:(q+1) * d=d * q+d:=by rw [Int.add_mul,c]; omega
  rw [m]; generalize d * q=p at *; omega
 ·rw [c]; generalize d * q=p at *; omega
theorem rnd_only (n d m:Int) (hd:0 < d) (h0:-d<=2 * (n - m * d)) (h1:2 * (n - m * d)<=d) (h2:2 * (n - m * d)=d\/2 * (n - m * d) = -d->m % 2=0):rnd n d=m:=by
 obtain ⟨k0,k1,k2⟩:=rnd_near n d hd
 generalize rnd n d=q at *
 have e:(q - m) * d=q * d - m * d:=Int.sub_mul q m d
 have b1:(q - m) * d<=d:=by omega
 have b2:-d<=(q - m) * d:=by omega
 have c1:q - m<=1:=by
  by_cases c:q - m<=1
  ·exact c
  ·have:2 * d<=(q - m) * d:=Int.mul_le_mul_of_nonneg_right (by omega) (by omega)
   omega
 have c2:-1<=q - m:=by
  by_cases c:-1<=q - m
  ·exact c
  ·have:(q - m) * d<=(-2) * d:=Int.mul_le_mul_of_nonneg_right (by omega) (by omega)
   omega
 have three:q - m=0\/q - m=1\/q - m=-1:=by omega
 rcases three with t | t | t
 ·omega
 ·rw [t] at e
  have z1:=k2 (Or.inr (by omega))
  have z2:=h2 (Or.inl (by omega))
  omega
 ·rw [t] at e
  have z1:=k2 (Or.inl (by omega))
  have z2:=h2 (Or.inr (by omega))
  omega
theorem rnd_neg (n d:Int) (hd:0 < d):rnd (-n) d = -rnd n d:=by
 obtain ⟨k0,k1,k2⟩:=rnd_near n d hd
 generalize rnd n d=q at *
 have e:-q * d = -(q * d):=Int.neg_mul q d
 refine rnd_only _ _ _ hd ?_ ?_ ?_
 ·rw [e]; omega
 ·rw [e]; omega
 ·rw [e]; intro h; have:=k2 (by omega); omega
theorem rnd_mono {a b d:Int} (hd:0 < d) (h:a<=b):rnd a d<=rnd b d:=by
 obtain ⟨k0,k1,k2⟩:=rnd_near a d hd
 obtain ⟨l0,l1,l2⟩:=rnd_near b d hd
 by_cases c:rnd a d<=rnd b d
 ·exact c
 ·generalize rnd a d=p at *
  generalize rnd b d=q at *
  exfalso
  have e:(p - q) * d=p * d - q * d:=Int.sub_mul p q d
  have g:d<=(p - q) * d:=by
   have:=Int.mul_le_mul_of_nonneg_right (a:=1) (b:=p - q) (c:=d) (by omega) (by omega)
   omega
  by_cases one:p - q=1
  ·rw [one] at e
   have z1:=k2 (Or.inr (by omega))
   have z2:=l2 (Or.inl (by omega))
   omega
  ·have:=Int.mul_le_mul_of_nonneg_right (a:=2) (b:=p - q) (c:=d) (by omega) (by omega)
   omega
theorem rnd_whole (q d:Int) (hd:0 < d):rnd (q * d) d=q:=by
 refine rnd_only _ _ _ hd ?_ ?_ ?_ <;> omega
theorem rnd_bd (n d:Int) (hd:0 < d) (B:Int) (hB:0<=B) (h0:-B<=n) (h1:n<=B):-B<=rnd n d/\rnd n d<=B:=by
 have hm:B<=B * d:=by have:=Int.mul_le_mul_of_nonneg_left (a:=1) (b:=d) (c:=B) (by omega) hB; omega
 have a:=rnd_mono (a:=n) (b:=B * d) hd (by omega)
 have b:=rnd_mono (a:=-(B * d)) (b:=n) hd (by omega)
 rw [rnd_neg _ _ hd] at b
 rw [rnd_whole _ _ hd] at a b
 omega
theorem mulI_comm (a b:Int):mulI a b=mulI b a:=by unfold mulI; rw [Int.mul_comm]
theorem mulI_one (a:Int) (h0:-2147483647<=a) (h1:a<=2147483647):mulI a 65536=a:=by
 unfold mulI; rw [ZbB h0 h1,ZbB (n:=65536) (by omega) (by omega),rnd_whole _ _ (by omega),ZbB h0 h1]
theorem mulI_mono {a b c:Int} (hc:0<=c) (h:a<=b):mulI a c<=mulI b c:=by
 unfold mulI; have:=ZbU h
 have hc':0<=clampI c:=by unfold clampI; (repeat' split) <;> omega
 exact ZbU (rnd_mono (by omega) (Int.mul_le_mul_of_nonneg_right this hc'))
theorem tmod_pos {n d:Int} (hn:0<=n):n.tmod d=n % d:=Int.tmod_eq_emod_of_nonneg hn
theorem floor_of {n d:Int} (hd:0 < d):(n.tmod d < 0->n / d=n.tdiv d - 1/\n % d=n.tmod d+d)/\(0<=n.tmod d->n / d=n.tdiv d/\n % d=n.tmod d):=by
 have e:=Int.mul_ediv_add_emod n d
 have f:=Int.mul_tdiv_add_tmod n d
 have l:=Int.emod_nonneg n (b:=d) (by omega)
 have u:=Int.emod_lt_of_pos n hd
 have a1:(n.tmod d).natAbs < d.natAbs:=by rw [Int.natAbs_tmod]; exact Nat.mod_lt _ (by omega)
 generalize n.tdiv d=q at *
 generalize n.tmod d=r at *
 generalize n / d=q' at *
 generalize n % d=r' at *
 have g:d * (q' - q)=r - r':=by rw [Int.mul_sub]; omega
 have k1:q' - q < 1:=by
  by_cases c:q' - q < 1
  ·exact c
  ·have:=Int.mul_le_mul_of_nonneg_left (a:=1) (b:=q' - q) (c:=d) (by omega) (by omega); omega
 have k2:-2 < q' - q:=by
  by_cases c:-2 < q' - q
  ·exact c
  ·have:=Int.mul_le_mul_of_nonneg_left (a:=q' - q) (b:=-2) (c:=d) (by omega) (by omega); omega
 have k:q' - q=0\/q' - q=-1:=by omega
 rcases k with k | k <;> rw [k] at g <;> omega
theorem tdiv_bd (n d B:Int) (h0:-B<=n) (h1:n<=B):-B<=n.tdiv d/\n.tdiv d<=B:=by
 have a1:(n.tdiv d).natAbs<=n.natAbs:=by rw [Int.natAbs_tdiv]; exact Nat.div_le_self _ _
 omega
theorem tmod_bd (n d:Int) (hd:0 < d):-d < n.tmod d/\n.tmod d < d:=by
 have a1:(n.tmod d).natAbs < d.natAbs:=by rw [Int.natAbs_tmod]; exact Nat.mod_lt _ (by omega)
 omega
theorem floor_dneg {n d:Int} (hd:d < 0):(-(n.tmod d) < 0->(-n) / (-d)=n.tdiv d - 1/\(-n) % (-d) = -(n.tmod d) + -d)/\(0 <= -(n.tmod d)->(-n) / (-d)=n.tdiv d/\(-n) % (-d) = -(n.tmod d)):=by
 have f:=floor_of (n:=-n) (d:=-d) (by omega)
 rw [Int.neg_tdiv_neg,Int.tmod_neg,Int.neg_tmod] at f
 exact f
theorem tmod_dneg (n d:Int) (hd:d < 0):d < n.tmod d/\n.tmod d < -d:=by
 have a1:(n.tmod d).natAbs < d.natAbs:=by rw [Int.natAbs_tmod]; exact Nat.mod_lt _ (by omega)
 omega
theorem Zcj (n d:Int):(n<=0->n.tmod d<=0)/\(0<=n->n.tmod d=n % d/\0<=n.tmod d):=by
 refine ⟨fun h=>?_,fun h=>⟨Int.tmod_eq_emod_of_nonneg h,Int.tmod_nonneg d h⟩⟩
 have:=Int.tmod_nonneg d (a:=-n) (by omega)
 rw [Int.neg_tmod] at this; omega
theorem odd_tmod (q:Int):q.tmod 2=0 ↔ q % 2=0:=by
 have a:(q.tmod 2).natAbs=q.natAbs % 2:=by rw [Int.natAbs_tmod]; rfl
 omega
theorem rnd_of {n d q r x:Int} (hq:n / d=q) (hr:n % d=r) (hx:(d < 2 * r\/(2 * r=d/\q % 2 ≠ 0))->x=q+1) (hy:¬ (d < 2 * r\/(2 * r=d/\q % 2 ≠ 0))->x=q):x=rnd n d:=by
 unfold rnd; rw [hq,hr]; split
 ·exact hx ‹_›
 ·exact hy ‹_›
def inB (n lo hi:Int):Bool:=decide (lo<=n) && decide (n<=hi)
theorem in_yes {n lo hi:Int} (h:lo<=n/\n<=hi):inB n lo hi=true:=by unfold inB; simp; omega
theorem in_is {n lo hi:Int} (h:inB n lo hi=true):lo<=n/\n<=hi:=by simpa [inB] using h
def Lst (w:World) (a:Option Addr) (len cap:Nat) (xs:List Int):Prop :=
 xs.length=len/\len<=cap/\(len=0\/∃ b off,a=some ⟨b,off,none⟩/\b < w.heap.size/\∀ i,i < len->w.cell? ⟨b,off+i,none⟩=some (.int .i64 (xs.getD i 0)))
theorem Lst.len {w:World} {a:Option Addr} {n c:Nat} {xs:List Int} (h:Lst w a n c xs):xs.length=n:=h.1
theorem Lst.cap {w:World} {a:Option Addr} {n c:Nat} {xs:List Int} (h:Lst w a n c xs):n<=c:=h.2.1
theorem Lst.at {w:World} {a:Option Addr} {n c:Nat} {xs:List Int} (h:Lst w a n c xs) (hn:0 < n) :
  ∃ b off,a=some ⟨b,off,none⟩/\b < w.heap.size/\∀ i,i < n->w.cell? ⟨b,off+i,none⟩=some (.int .i64 (xs.getD i 0)):=by
 rcases h.2.2 with h0 | h0
 ·omega
 ·exact h0
theorem Lst.at1 {w:World} {a:Option Addr} {n c:Nat} {xs:List Int} (h:Lst w a n c xs) {k:Nat} (hk:k < n) :
  ∃ b off x,a=some ⟨b,off,none⟩/\b < w.heap.size/\w.cell? ⟨b,off+k,none⟩=some (.int .i64 x)/\Hid (xs.getD k 0=x):=by
 obtain ⟨b,off,e,hs,hc⟩:=h.at (by omega)
 exact ⟨b,off,_,e,hs,hc k hk,rfl⟩
theorem Lst.nil (w:World) (a:Option Addr) (c:Nat):Lst w a 0 c []:=⟨rfl,Nat.zero_le _,.inl rfl⟩
theorem Lst.below {w w':World} {a:Option Addr} {n c:Nat} {xs:List Int} {B:Nat} (h:Lst w a n c xs) (hb:Below B w w') (hB:w.heap.size<=B):Lst w' a n c xs:=by
 refine ⟨h.1,h.2.1,?_⟩
 rcases h.2.2 with h0 | ⟨b,off,e,hs,hc⟩
 ·exact .inl h0
 ·exact .inr ⟨b,off,e,Nat.lt_of_lt_of_le hs hb.size,fun i hi=>(hb.cell (p:=⟨b,off+i,none⟩) (Nat.lt_of_lt_of_le hs hB)).trans (hc i hi)⟩
theorem Lst.drewN {w:World} {a:Option Addr} {n c:Nat} {xs:List Int} (h:Lst w a n c xs) (k:Nat):Lst (w.drewN k) a n c xs:=by
 refine ⟨h.1,h.2.1,?_⟩
 rcases h.2.2 with h0 | ⟨b,off,e,hs,hc⟩
 ·exact .inl h0
 ·exact .inr ⟨b,off,e,hs,fun i hi=>hc i hi⟩
theorem Lst.drew {w:World} {a:Option Addr} {n c:Nat} {xs:List Int} (h:Lst w a n c xs):Lst w.drew a n c xs:=h.drewN 1
theorem Lst.row {w:World} {b t n:Nat} {f:Nat->Value} {xs:List Int} (h:w.rowIs b t n f) (hl:xs.length=n) (hf:∀ i,i < n->f i=.int .i64 (xs.getD i 0)):Lst w (some ⟨b,0,none⟩) n n xs :=
 ⟨hl,nr,.inr ⟨b,0,rfl,h.lt,fun i hi=>by rw [Nat.zero_add,h.cell hi,hf i hi]⟩⟩
theorem ZbG (xs:List Int) (i:Nat) (hi:i < xs.length):(xs.map (Value.int .i64))[i]?=some (.int .i64 (xs.getD i 0)):=by
 simp [hi]
theorem Lst.owned {w:World} {base e n:Nat} {v:Value} {xs:List Int} (h:w.ownsRow base e 1 v n (xs.map (Value.int .i64))) :
  ∃ a c,v=.slice a n c/\Lst w a n c xs:=by
 obtain ⟨hl,h2⟩:=h
 rw [List.length_map,Nat.mul_one] at hl
 rcases h2 with ⟨rfl,rfl⟩ | ⟨g,cap,cur,rfl,_,hh,hle,_,hsz,hcur⟩
 ·rw [List.length_eq_zero_iff] at hl
  subst hl
  exact ⟨none,0,rfl,Lst.nil _ _ _⟩
 ·refine ⟨_,cap,rfl,hl,hle,.inr ⟨g,0,rfl,(Array.getElem?_eq_some_iff.1 hh).1,fun i hi=>?_⟩⟩
  have h3:=ZbG xs i (by omega)
  rw [← hcur,Nat.mul_one] at h3
  simp only [World.cell?,hh,Nat.zero_add]
  rw [List.getElem?_take_of_lt hi] at h3
  simpa using h3
theorem Lst.sub {w:World} {b off n c:Nat} {xs:List Int} (h:Lst w (some ⟨b,off,none⟩) n c xs) (hn:0 < n) (lo hi:Nat) (h1:lo<=hi) (h2:hi<=n) :
  Lst w (some ⟨b,off+lo,none⟩) (hi - lo) (c - lo) ((xs.drop lo).take (hi - lo)):=by
 obtain ⟨b',off',e,hs,hc⟩:=h.at hn
 have:=h.len
 have:=h.cap
 simp only [Option.some.injEq,Addr.mk.injEq,and_true] at e
 obtain ⟨rfl,rfl⟩:=e
 refine ⟨by simp; omega,by omega,.inr ⟨b,off+lo,rfl,hs,fun i hi'=>?_⟩⟩
 rw [Nat.add_assoc,hc (lo+i) (by omega)]
 have e:((xs.drop lo).take (hi - lo)).getD i 0=xs.getD (lo+i) 0:=by
  rw [List.getD_eq_getElem?_getD,List.getElem?_take_of_lt hi',List.getElem?_drop,← List.getD_eq_getElem?_getD]
 rw [e]
theorem Zab {B:Nat} {W w1:World} (hb:Below B W w1) (n:Nat):Below B W (w1.drewN n):=⟨hb.os,hb.tape,hb.output,hb.size,hb.block⟩
theorem Lst.at1b {w wr:World} {a:Option Addr} {n c:Nat} {xs:List Int} {B:Nat} (h:Lst w a n c xs) (hb:Below B w wr) (hB:w.heap.size<=B) {k:Nat} (hk:k < n) :
  ∃ b off x,a=some ⟨b,off,none⟩/\b < w.heap.size/\wr.cell? ⟨b,off+k,none⟩=some (.int .i64 x)/\Hid (xs.getD k 0=x):=by
 obtain ⟨b,off,x,e,hs,hc,hx⟩:=h.at1 hk
 exact ⟨b,off,x,e,hs,(hb.cell (p:=⟨b,off+k,none⟩) (Nat.lt_of_lt_of_le hs hB)).trans hc,hx⟩
theorem Zaf (w:World) (v:Value) (t:TypeId):(w.alloc (.cells #[v] t)).cell? ⟨w.heap.size,0,none⟩=some v :=
 (World.rowIs_alloc w #[v] t (fun _ => v) (by intro i hi; obtain rfl : i = 0 := by simpa using hi
                                              rfl)).cell (i:=0) (by simp)
theorem box3 {w wr:World} {B:Nat} (v0 v1 v2:Value) (t:TypeId) (hb:Below B (w.alloc (.cells #[v0,v1,v2] t)) wr) (hB:w.heap.size < B) :
  wr.cell? ⟨w.heap.size,0,none⟩=some v0/\wr.cell? ⟨w.heap.size,1,none⟩=some v1/\wr.cell? ⟨w.heap.size,2,none⟩=some v2:=by
 have h:=World.rowIs_alloc w #[v0,v1,v2] t (fun i=>if i=0 then v0 else if i=1 then v1 else v2) (by
  intro i hi
  rcases (show i = 0 ∨ i = 1 ∨ i = 2 from by have : i < 3 := hi
                                             omega) with rfl | rfl | rfl <;> rfl)
 refine ⟨?_,?_,?_⟩
 ·exact (hb.cell (p:=⟨w.heap.size,0,none⟩) hB).trans (h.cell (i:=0) (by simp))
 ·exact (hb.cell (p:=⟨w.heap.size,1,none⟩) hB).trans (h.cell (i:=1) (by simp))
 ·exact (hb.cell (p:=⟨w.heap.size,2,none⟩) hB).trans (h.cell (i:=2) (by simp))
theorem Zas {w:World} {a:Addr} {v:Value} (h:w.cell? a=some v):a.block < w.heap.size:=by
 rcases Nat.lt_or_ge a.block w.heap.size with h' | h'
 ·exact h'
 ·simp [World.cell?,Array.getElem?_eq_none h'] at h
theorem ZaK (x:Int) (h1:-9223372036854775808<=x) (h2:x<=9223372036854775807):IntKind.i64.wrap x=x:=by
 rw [IntKind.wrap_i64]; omega
def dotTo (xs ys:List Int):Nat->Int
 | 0=>0
 | k+1=>addI (dotTo xs ys k) (mulI (xs.getD k 0) (ys.getD k 0))
def rowTo (g:Nat->Int) (k i:Nat):Value:=if i < k then .int .i64 (g i) else .int .i64 0
theorem Zaw {w:World} {b t n k:Nat} {g:Nat->Int} (h:w.rowIs b t n (rowTo g k)):(w.setCell ⟨b,k,none⟩ (.int .i64 (g k))).rowIs b t n (rowTo g (k+1)):=by
 refine (h.set k (.int .i64 (g k))).congr (fun i _=>?_)
 unfold rowTo
 by_cases e:i=k
 ·subst e; rw [if_pos rfl,if_pos (by omega)]
 ·rw [if_neg e]
  by_cases e2:i < k
  ·rw [if_pos e2,if_pos (by omega)]
  ·rw [if_neg e2,if_neg (by omega)]
theorem ZaG {w:World} {b t n:Nat} {g:Nat->Int} (h:w.rowIs b t n (fun _=>.int .i64 0)):w.rowIs b t n (rowTo g 0) :=
 h.congr (fun i _=>by unfold rowTo; rw [if_neg (by omega)])
theorem Zbe {w:World} {b t n:Nat} {g:Nat->Int} (h:w.rowIs b t n (rowTo g n)):Lst w (some ⟨b,0,none⟩) n n ((List.range n).map g) :=
 Lst.row h (by simp) (fun i hi=>by unfold rowTo; rw [if_pos hi]; simp [hi])
theorem Zax {w:World} {b t n k:Nat} {g:Nat->Int} (h:w.rowIs b t n (rowTo g k)) (hk:k < n):w.cell? ⟨b,k,none⟩=some (.int .i64 0):=by
 rw [h.cell hk]; unfold rowTo; rw [if_neg (by omega)]
theorem Zap {w:World} {b t n:Nat} {f:Nat->Value} (h:w.rowIs b t n f) (k:Nat):(w.drewN k).rowIs b t n f:=h
def sideB (n:Int):Bool:=decide (1<=n) && decide (n<=4)
theorem ZaY {n:Int} (h:sideB n=true):1<=n/\n<=4:=by simpa [sideB] using h
theorem ZaP {n:Int} (h1:1<=n) (h2:n<=4):sideB n=true:=by simp [sideB,h1,h2]
theorem ZbV {n:Int} (h:¬ (1<=n/\n<=4)):sideB n=false:=by
 cases e:sideB n with
 | false=>rfl
 | true=>exact absurd (ZaY e) h
def rightB (xs:List Int):Bool:=xs.all fun n=>decide (n=clampI n)
theorem ZbC {xs:List Int} (h:∀ j,j < xs.length->xs.getD j 0=clampI (xs.getD j 0)):rightB xs=true:=by
 unfold rightB
 rw [List.all_eq_true]
 intro x hx
 obtain ⟨i,hi,rfl⟩:=List.getElem_of_mem hx
 have:=h i hi
 rw [List.getD_eq_getElem?_getD,List.getElem?_eq_getElem hi,Option.getD_some] at this
 exact decide_eq_true this
theorem rightB_get {xs:List Int} (h:rightB xs=true) (j:Nat):xs.getD j 0=clampI (xs.getD j 0):=by
 unfold rightB at h
 rw [List.all_eq_true] at h
 rcases Nat.lt_or_ge j xs.length with hj | hj
 ·have:=of_decide_eq_true (h (xs[j]) (List.getElem_mem hj))
  rw [List.getD_eq_getElem?_getD,List.getElem?_eq_getElem hj,Option.getD_some]
  exact this
 ·rw [List.getD_eq_getElem?_getD,List.getElem?_eq_none hj]
  rfl
theorem Zck {xs:List Int} {k:Nat} (h:xs.getD k 0 ≠ clampI (xs.getD k 0)):rightB xs=false:=by
 cases e:rightB xs with
 | false=>rfl
 | true=>exact absurd (rightB_get e k) h
def chkI (r c:Int) (len:Nat) (xs:List Int):Int :=
 if sideB r=true/\sideB c=true then (if (len:Int)=r * c/\rightB xs=true then 0 else 5) else 1
def bothI (r c:Int) (len:Nat) (xs:List Int) (lv:Nat) (side:Int):Int :=
 if 200 < lv then 2 else if chkI r c len xs=0 then (if (lv:Int)=side then 0 else 5) else chkI r c len xs
theorem prod_side {r c:Int} (hr1:1<=r) (hr2:r<=4) (hc1:1<=c) (hc2:c<=4):1<=r * c/\r * c<=16:=by
 rcases (show r=1\/r=2\/r=3\/r=4 from by omega) with rfl | rfl | rfl | rfl <;> omega
theorem Zae {r c:Nat} (hr2:r<=4) (hc2:c<=4):r * c<=16:=by
 rcases (show r=0\/r=1\/r=2\/r=3\/r=4 from by omega) with rfl | rfl | rfl | rfl | rfl <;> omega
theorem Zcl {r c:Int} {len:Nat} {xs:List Int} (h:chkI r c len xs=0) :
  ∃ R C:Nat,r=(R:Int)/\c=(C:Int)/\1<=R/\R<=4/\1<=C/\C<=4/\len=R * C/\rightB xs=true:=by
 unfold chkI at h
 by_cases h1:sideB r=true/\sideB c=true
 ·rw [if_pos h1] at h
  by_cases h2:(len:Int)=r * c/\rightB xs=true
  ·have a:=ZaY h1.1
   have b:=ZaY h1.2
   obtain ⟨R,rfl⟩:=Int.eq_ofNat_of_zero_le (show 0<=r by omega)
   obtain ⟨C,rfl⟩:=Int.eq_ofNat_of_zero_le (show 0<=c by omega)
   exact ⟨R,C,rfl,rfl,by omega,by omega,by omega,by omega,by exact_mod_cast h2.1,h2.2⟩
  ·rw [if_neg h2] at h; exact absurd h (by decide)
 ·rw [if_neg h1] at h; exact absurd h (by decide)
theorem chkI_cases (r c:Int) (len:Nat) (xs:List Int):chkI r c len xs=0\/(chkI r c len xs ≠ 0/\(chkI r c len xs != 0)=true/\(chkI r c len xs == 0)=false):=by
 by_cases h:chkI r c len xs=0
 ·exact .inl h
 ·exact .inr ⟨h,by simpa using h,by simpa using h⟩
theorem bothI_cases (r c:Int) (len:Nat) (xs:List Int) (lv:Nat) (s:Int) :
  (bothI r c len xs lv s=0/\lv<=200/\chkI r c len xs=0/\(lv:Int)=s)\/(bothI r c len xs lv s ≠ 0/\(bothI r c len xs lv s != 0)=true):=by
 unfold bothI
 by_cases h:200 < lv
 ·rw [if_pos h]; exact .inr ⟨by decide,by decide⟩
 ·rw [if_neg h]
  by_cases h2:chkI r c len xs=0
  ·rw [if_pos h2]
   by_cases h3:(lv:Int)=s
   ·rw [if_pos h3]; exact .inl ⟨rfl,by omega,h2,h3⟩
   ·rw [if_neg h3]; exact .inr ⟨by decide,by decide⟩
  ·rw [if_neg h2]; exact .inr ⟨h2,by simpa using h2⟩
def rowL (xs:List Int) (c k:Nat):List Int:=(List.range c).map fun i=>xs.getD (k * c+i) 0
def colL (xs:List Int) (r c k:Nat):List Int:=(List.range r).map fun i=>xs.getD (i * c+k) 0
def mulG (xs ys:List Int) (c k:Nat):Int:=dotTo (rowL xs c k) ys c
def backG (xs ys:List Int) (r c k:Nat):Int:=dotTo (colL xs r c k) ys r
def mulL (r c:Int) (len:Nat) (xs:List Int) (lv:Nat) (ys:List Int):List Int:=if bothI r c len xs lv c=0 then (List.range r.toNat).map (mulG xs ys c.toNat) else []
theorem sub_range (xs:List Int) (lo n:Nat) (h:lo+n<=xs.length):(xs.drop lo).take n=(List.range n).map fun i=>xs.getD (lo+i) 0:=by
 refine List.ext_getElem (by simp; omega) (fun i h1 h2=>?_)
 have h3:lo+i < xs.length:=by simp at h1; omega
 simp [h3]
structure Pup where
 r1:Int
 c1:Int
 a1:Option Addr
 n1:Nat
 k1:Nat
 r2:Int
 c2:Int
 a2:Option Addr
 n2:Nat
 k2:Nat
 d1:Option Addr
 m1:Nat
 e1:Nat
 d2:Option Addr
 m2:Nat
 e2:Nat
structure PD where
 X1:List Int
 X2:List Int
 B1:List Int
 B2:List Int
def Pup.cells (p:Pup):Array Value:=#[.int .i64 p.r1,.int .i64 p.c1,.slice p.a1 p.n1 p.k1,.int .i64 p.r2,.int .i64 p.c2,.slice p.a2 p.n2 p.k2,.slice p.d1 p.m1 p.e1,.slice p.d2 p.m2 p.e2]
def Pup.val (p:Pup):Value:=.agg p.cells
structure InPup (w:World) (p:Pup) (d:PD):Prop where
 x1:Lst w p.a1 p.n1 p.k1 d.X1
 x2:Lst w p.a2 p.n2 p.k2 d.X2
 b1:Lst w p.d1 p.m1 p.e1 d.B1
 b2:Lst w p.d2 p.m2 p.e2 d.B2
theorem InPup.below {w w':World} {p:Pup} {d:PD} {B:Nat} (h:InPup w p d) (hb:Below B w w') (hB:w.heap.size<=B):InPup w' p d :=
 ⟨h.x1.below hb hB,h.x2.below hb hB,h.b1.below hb hB,h.b2.below hb hB⟩
def pchk (p:Pup) (d:PD):Int :=
 if chkI p.r1 p.c1 p.n1 d.X1=0 then
  (if chkI p.r2 p.c2 p.n2 d.X2=0 then (if (p.c2=p.r1/\(p.m1:Int)=p.r1/\(p.m2:Int)=p.r2)/\rightB d.B1=true/\rightB d.B2=true then 0 else 5) else chkI p.r2 p.c2 p.n2 d.X2)
 else chkI p.r1 p.c1 p.n1 d.X1
def rpup (I H O:Nat) (a1:Option Addr) (k1:Nat) (a2:Option Addr) (k2:Nat) (d1:Option Addr) (e1:Nat) (d2:Option Addr) (e2:Nat):Pup :=
 ⟨H,I,a1,H * I,k1,O,H,a2,O * H,k2,d1,H,e1,d2,O,e2⟩
def RightD (d:PD):Prop:=rightB d.X1=true/\rightB d.X2=true/\rightB d.B1=true/\rightB d.B2=true
theorem pchk_zero {p:Pup} {d:PD} (h:pchk p d=0) :
  ∃ I H O a1 k1 a2 k2 d1 e1 d2 e2,p=rpup I H O a1 k1 a2 k2 d1 e1 d2 e2/\1<=I/\I<=4/\1<=H/\H<=4/\1<=O/\O<=4/\RightD d:=by
 unfold pchk at h
 by_cases h1:chkI p.r1 p.c1 p.n1 d.X1=0
 ·rw [if_pos h1] at h
  by_cases h2:chkI p.r2 p.c2 p.n2 d.X2=0
  ·rw [if_pos h2] at h
   by_cases h3:(p.c2=p.r1/\(p.m1:Int)=p.r1/\(p.m2:Int)=p.r2)/\rightB d.B1=true/\rightB d.B2=true
   ·obtain ⟨r1,c1,a1,n1,k1,r2,c2,a2,n2,k2,d1,m1,e1,d2,m2,e2⟩:=p
    dsimp only at *
    obtain ⟨R1,C1,rfl,rfl,p1,p2,p3,p4,rfl,g1⟩:=Zcl h1
    obtain ⟨R2,C2,rfl,rfl,q1,q2,q3,q4,rfl,g2⟩:=Zcl h2
    obtain ⟨⟨s1,s2,s3⟩,s4,s5⟩:=h3
    obtain rfl:R1=C2:=by omega
    obtain rfl:R1=m1:=by omega
    obtain rfl:R2=m2:=by omega
    exact ⟨C1,R1,R2,a1,k1,a2,k2,d1,e1,d2,e2,rfl,p3,p4,p1,p2,q1,q2,g1,g2,s4,s5⟩
   ·rw [if_neg h3] at h; exact absurd h (by decide)
  ·rw [if_neg h2] at h; exact absurd h h2
 ·rw [if_neg h1] at h; exact absurd h h1
theorem chkI_mk {R C:Nat} {xs:List Int} (h1:1<=R) (h2:R<=4) (h3:1<=C) (h4:C<=4) (h:rightB xs=true):chkI R C (R * C) xs=0:=by
 unfold chkI
 rw [if_pos ⟨ZaP (by omega) (by omega),ZaP (by omega) (by omega)⟩,if_pos ⟨by push_cast; rfl,h⟩]
theorem pchk_right {I H O:Nat} {a1:Option Addr} {k1:Nat} {a2:Option Addr} {k2:Nat} {d1:Option Addr} {e1:Nat} {d2:Option Addr} {e2:Nat} {d:PD} (i1:1<=I) (i2:I<=4) (h1:1<=H) (h2:H<=4) (o1:1<=O) (o2:O<=4) (h:RightD d) :
  pchk (rpup I H O a1 k1 a2 k2 d1 e1 d2 e2) d=0:=by
 unfold pchk rpup
 dsimp only
 rw [if_pos (chkI_mk h1 h2 i1 i2 h.1),if_pos (chkI_mk o1 o2 h1 h2 h.2.1),if_pos ⟨⟨rfl,rfl,rfl⟩,h.2.2⟩]
theorem pchk_cases (p:Pup) (d:PD):pchk p d=0\/(pchk p d ≠ 0/\(pchk p d != 0)=true/\(pchk p d == 0)=false):=by
 by_cases h:pchk p d=0
 ·exact .inl h
 ·exact .inr ⟨h,by simpa using h,by simpa using h⟩
def flatD (d:PD):List Int:=d.X1 ++ (d.B1 ++ (d.X2 ++ d.B2))
def flatL (p:Pup) (d:PD):List Int:=if pchk p d=0 then flatD d else []
theorem boxN {w wr:World} {B:Nat} (cs:Array Value) (t:TypeId) (hb:Below B (w.alloc (.cells cs t)) wr) (hB:w.heap.size < B) (i:Nat):wr.cell? ⟨w.heap.size,i,none⟩=cs[i]? :=
 (hb.cell (p:=⟨w.heap.size,i,none⟩) hB).trans (World.cell?_alloc_mark w cs t _ i)
structure Box8 (w:World) (b:Nat) (v0 v1 v2 v3 v4 v5 v6 v7:Value):Prop where
 c0:w.cell? ⟨b,0,none⟩=some v0
 c1:w.cell? ⟨b,1,none⟩=some v1
 c2:w.cell? ⟨b,2,none⟩=some v2
 c3:w.cell? ⟨b,3,none⟩=some v3
 c4:w.cell? ⟨b,4,none⟩=some v4
 c5:w.cell? ⟨b,5,none⟩=some v5
 c6:w.cell? ⟨b,6,none⟩=some v6
 c7:w.cell? ⟨b,7,none⟩=some v7
theorem box8 {w wr:World} {B:Nat} {v0 v1 v2 v3 v4 v5 v6 v7:Value} {t:TypeId} (hb:Below B (w.alloc (.cells #[v0,v1,v2,v3,v4,v5,v6,v7] t)) wr) (hB:w.heap.size < B) :
  Box8 wr w.heap.size v0 v1 v2 v3 v4 v5 v6 v7 :=
 ⟨boxN _ _ hb hB 0,boxN _ _ hb hB 1,boxN _ _ hb hB 2,boxN _ _ hb hB 3,boxN _ _ hb hB 4,boxN _ _ hb hB 5,boxN _ _ hb hB 6,boxN _ _ hb hB 7⟩
structure Exm where
 a:Option Addr
 n:Nat
 k:Nat
 b:Option Addr
 m:Nat
 t:Nat
def Exm.val (x:Exm):Value:=.agg #[.slice x.a x.n x.k,.slice x.b x.m x.t]
structure InEx (w:World) (x:Exm) (I O:List Int):Prop where
 i:Lst w x.a x.n x.k I
 o:Lst w x.b x.m x.t O
theorem InEx.below {w w':World} {x:Exm} {I O:List Int} {B:Nat} (h:InEx w x I O) (hb:Below B w w') (hB:w.heap.size<=B):InEx w' x I O:=⟨h.i.below hb hB,h.o.below hb hB⟩
theorem box2 {w wr:World} {B:Nat} {v0 v1:Value} {t:TypeId} (hb:Below B (w.alloc (.cells #[v0,v1] t)) wr) (hB:w.heap.size < B) :
  wr.cell? ⟨w.heap.size,0,none⟩=some v0/\wr.cell? ⟨w.heap.size,1,none⟩=some v1:=⟨boxN _ _ hb hB 0,boxN _ _ hb hB 1⟩
structure Cfg where
 i:Int
 h:Int
 o:Int
 seed:Int
 batch:Int
 steps:Int
 rate:Int
 decay:Int
 how:Int
 keep:Int
 clip:Int
def Cfg.cells (c:Cfg):Array Value:=#[.int .i64 c.i,.int .i64 c.h,.int .i64 c.o,.int .u64 c.seed,.int .i64 c.batch,.int .i64 c.steps,.int .i64 c.rate,.int .i64 c.decay,.int .i64 c.how,.int .i64 c.keep,.int .i64 c.clip]
def Cfg.val (c:Cfg):Value:=.agg c.cells
structure BoxC (w:World) (b:Nat) (c:Cfg):Prop where
 c0:w.cell? ⟨b,0,none⟩=some (.int .i64 c.i)
 c1:w.cell? ⟨b,1,none⟩=some (.int .i64 c.h)
 c2:w.cell? ⟨b,2,none⟩=some (.int .i64 c.o)
 c3:w.cell? ⟨b,3,none⟩=some (.int .u64 c.seed)
 c4:w.cell? ⟨b,4,none⟩=some (.int .i64 c.batch)
 c5:w.cell? ⟨b,5,none⟩=some (.int .i64 c.steps)
 c6:w.cell? ⟨b,6,none⟩=some (.int .i64 c.rate)
 c7:w.cell? ⟨b,7,none⟩=some (.int .i64 c.decay)
 c8:w.cell? ⟨b,8,none⟩=some (.int .i64 c.how)
 c9:w.cell? ⟨b,9,none⟩=some (.int .i64 c.keep)
 c10:w.cell? ⟨b,10,none⟩=some (.int .i64 c.clip)
theorem boxC {w wr:World} {B:Nat} {c:Cfg} {t:TypeId} (hb:Below B (w.alloc (.cells c.cells t)) wr) (hB:w.heap.size < B):BoxC wr w.heap.size c :=
 ⟨boxN _ _ hb hB 0,boxN _ _ hb hB 1,boxN _ _ hb hB 2,boxN _ _ hb hB 3,boxN _ _ hb hB 4,boxN _ _ hb hB 5,boxN _ _ hb hB 6,boxN _ _ hb hB 7,boxN _ _ hb hB 8,boxN _ _ hb hB 9,boxN _ _ hb hB 10⟩
def cfgB (c:Cfg):Bool :=
 inB c.i 1 4 && inB c.h 1 4 && inB c.o 1 4 && inB c.batch 1 8 && inB c.steps 1 40 && inB c.rate 0 2147483647 && inB c.decay 0 1 && inB c.how 0 1 && inB c.keep 0 65536 && inB c.clip 0 2147483647
def cfgI (c:Cfg):Int:=if cfgB c=true then 0 else 1
theorem Zal {c:Cfg} (h:cfgB c=true):(1<=c.i/\c.i<=4)/\(1<=c.h/\c.h<=4)/\(1<=c.o/\c.o<=4)/\(1<=c.batch/\c.batch<=8)/\(1<=c.steps/\c.steps<=40)/\(0<=c.rate/\c.rate<=2147483647)/\(0<=c.decay/\c.decay<=1)/\(0<=c.how/\c.how<=1)/\(0<=c.keep/\c.keep<=65536)/\(0<=c.clip/\c.clip<=2147483647):=by
 simp only [cfgB,Bool.and_eq_true] at h
 obtain ⟨⟨⟨⟨⟨⟨⟨⟨⟨h1,h2⟩,h3⟩,h4⟩,h5⟩,h6⟩,h7⟩,h8⟩,h9⟩,h10⟩:=h
 exact ⟨in_is h1,in_is h2,in_is h3,in_is h4,in_is h5,in_is h6,in_is h7,in_is h8,in_is h9,in_is h10⟩
theorem ZcC {c:Cfg} (h:cfgB c=true):cfgI c=0:=by unfold cfgI; rw [if_pos h]
theorem cfgI_no {c:Cfg} (h:cfgB c=false):cfgI c=1:=by unfold cfgI; rw [if_neg (by rw [h]; decide)]
def rateE (c:Cfg) (step:Int):Int:=if cfgB c=true/\inB step 0 (c.steps - 1)=true then 0 else 1
def rateV (c:Cfg) (step:Int):Int:=if c.decay=1 then mulI c.rate (divI (c.steps - step) c.steps) else c.rate
def rateI (c:Cfg) (step:Int):Int:=if cfgB c=true/\inB step 0 (c.steps - 1)=true then rateV c step else 0
def absI (n:Int):Int:=if n < 0 then -n else n
theorem absI_bd {n B:Int} (h0:-B<=n) (h1:n<=B):0<=absI n/\absI n<=B:=by unfold absI; split <;> omega
def topTo (g:Nat->Int):Nat->Int
 | 0=>0
 | k+1=>if topTo g k < absI (g k) then absI (g k) else topTo g k
theorem topTo_bd {g:Nat->Int} {n:Nat} (h:∀ i,i < n->-2147483647<=g i/\g i<=2147483647):0<=topTo g n/\topTo g n<=2147483647:=by
 induction n with
 | zero=>exact ⟨Int.le_refl _,by show (0:Int)<=2147483647; omega⟩
 | succ k ih =>
   have a:=absI_bd (h k (by omega)).1 (h k (by omega)).2
   have b:=ih (fun i hi=>h i (by omega))
   unfold topTo
   split <;> omega
def clampG (xs:List Int) (i:Nat):Int:=clampI (xs.getD i 0)
theorem clampG_bd (xs:List Int) (i:Nat):-2147483647<=clampG xs i/\clampG xs i<=2147483647:=Zav _
def topL (xs:List Int) (la:Nat):Int:=topTo (clampG xs) la
theorem topL_bd (xs:List Int) (la:Nat):0<=topL xs la/\topL xs la<=2147483647:=topTo_bd fun i _=>clampG_bd xs i
def clipE (la:Nat) (most:Int):Int:=if 200 < la then 2 else if inB most 0 2147483647=true then 0 else 1
def clipG (xs:List Int) (most:Int) (la i:Nat):Int:=if most ≠ 0/\most < topL xs la then mulI (xs.getD i 0) (divI most (topL xs la)) else clampI (xs.getD i 0)
def clipL (xs:List Int) (most:Int) (la:Nat):List Int:=if clipE la most=0 then (List.range la).map (clipG xs most la) else []
theorem mulI_clamp (a b:Int):mulI (clampI a) b=mulI a b:=by unfold mulI; rw [ZaO]
theorem mulI_clamp' (a b:Int):mulI b (clampI a)=mulI b a:=by unfold mulI; rw [ZaO]
def sizeN (c:Cfg):Int:=c.h * c.i+c.h+c.o * c.h+c.o
def fitB (c:Cfg) (len:Nat) (xs:List Int):Bool:=decide ((len:Int)=sizeN c) && rightB xs
def moveG (c:Cfg) (ms gs:List Int) (i:Nat):Int:=if c.how=1 then addI (mulI c.keep (ms.getD i 0)) (gs.getD i 0) else clampI (gs.getD i 0)
def keptG (c:Cfg) (ms gs:List Int) (i:Nat):Int:=if c.how=1 then moveG c ms gs i else ms.getD i 0
def goneG (c:Cfg) (ws ms gs:List Int) (rate:Int) (i:Nat):Int:=subI (ws.getD i 0) (mulI rate (moveG c ms gs i))
theorem ZaU {c:Cfg} (h:cfgB c=true):4<=sizeN c/\sizeN c<=40:=by
 obtain ⟨⟨i1,i2⟩,⟨h1,h2⟩,⟨o1,o2⟩,_⟩:=Zal h
 have a1:=Int.mul_le_mul_of_nonneg_right (c:=c.i) h2 (by omega)
 have a2:=Int.mul_le_mul_of_nonneg_right (c:=c.i) h1 (by omega)
 have b1:=Int.mul_le_mul_of_nonneg_right (c:=c.h) o2 (by omega)
 have b2:=Int.mul_le_mul_of_nonneg_right (c:=c.h) o1 (by omega)
 unfold sizeN
 omega
theorem fit_len {c:Cfg} (h:cfgB c=true) {len:Nat} {xs:List Int} (hf:fitB c len xs=true):(len:Int)=sizeN c/\len<=40/\4<=len/\rightB xs=true:=by
 simp only [fitB,Bool.and_eq_true,decide_eq_true_eq] at hf
 have:=ZaU h
 exact ⟨hf.1,by omega,by omega,hf.2⟩
def addP (a b:Int):Int:=(a+b) % 2305843009213693951
def mulP (a b:Int):Int:=(a * b) % 2305843009213693951
def sqTo (n:Int):Nat->Int
 | 0=>n
 | k+1=>mulP (sqTo n k) (sqTo n k)
def powP (n:Int):Int:=mulP (sqTo n 4) n
def okP (n:Int):Prop:=0<=n/\n < 2305843009213693951
def okW (n:Int):Prop:=0<=n/\n < 18446744073709551616
theorem okP_W {a:Int} (h:okP a):okW a:=⟨h.1,by have:=h.2; omega⟩
def okL (xs:List Int):Prop:=∀ i,i < xs.length->okW (xs.getD i 0)
theorem ZbD (a b:Int):okP (addP a b):=by unfold okP addP; omega
theorem mulP_ok (a b:Int):okP (mulP a b):=by unfold okP mulP; omega
theorem powP_ok (n:Int):okP (powP n):=mulP_ok _ _
theorem sqTo_ok {n:Int} (h:okP n):∀ k,okP (sqTo n k)
 | 0=>h
 | _+1=>mulP_ok _ _
structure Tri where
 x:Int
 y:Int
 z:Int
def Tri.ok (s:Tri):Prop:=okP s.x/\okP s.y/\okP s.z
def Tri.at (s:Tri) (k:Nat):Int:=if k=0 then s.x else if k=1 then s.y else s.z
def pows (i:Int) (s:Tri):Tri:=⟨powP (addP s.x i),powP (addP s.y (2 * i)),powP (addP s.z (3 * i))⟩
theorem pows_ok (i:Int) (s:Tri):(pows i s).ok:=⟨powP_ok _,powP_ok _,powP_ok _⟩
def sums (t:Tri):Tri:=⟨addP (addP (addP t.x t.y) t.z) t.x,addP (addP (addP t.x t.y) t.z) t.y,addP (addP (addP t.x t.y) t.z) t.z⟩
theorem sums_ok (t:Tri):(sums t).ok:=⟨ZbD _ _,ZbD _ _,ZbD _ _⟩
def mixTo (s:Tri):Nat->Tri
 | 0=>s
 | k+1=>sums (pows ((k:Int)+1) (mixTo s k))
def mixP (s:Tri):Tri:=mixTo s 6
theorem mixTo_ok {s:Tri} (h:s.ok):∀ k,(mixTo s k).ok
 | 0=>h
 | _+1=>sums_ok _
theorem mixP_ok (s:Tri):(mixP s).ok:=sums_ok _
def ofTo (kind:Int) (l:List Int):Nat->Tri
 | 0=>mixP ⟨kind % 2305843009213693951,l.length,1⟩
 | k+1=>mixP ⟨addP (ofTo kind l k).x (l.getD k 0),(ofTo kind l k).y,(ofTo kind l k).z⟩
def ofP (kind:Int) (l:List Int):Int:=(ofTo kind l l.length).y
theorem ofTo_ok (kind:Int) (l:List Int):∀ k,(ofTo kind l k).ok
 | 0=>mixP_ok _
 | _+1=>mixP_ok _
theorem ZbO (kind:Int) (l:List Int):okP (ofP kind l):=(ofTo_ok kind l _).2.1
def boundP (n:Int):Int:=(if n < -4294967296 then -4294967296 else if 4294967296 < n then 4294967296 else n)+4294967296
theorem boundP_ok (n:Int):0<=boundP n/\boundP n<=8589934592:=by unfold boundP; (repeat' split) <;> omega
theorem addP_mod (a b:Int):addP a (b % 2305843009213693951)=addP a b:=by unfold addP; omega
theorem four_add (x y z t:Int):addP (addP x y) (addP z t)=addP (addP (addP x y) z) t:=by unfold addP; omega
theorem rest_add (a b:Int):(a % 2305843009213693951+b % 2305843009213693951) % 2305843009213693951=addP a b:=by unfold addP; omega
def dblTo (a b:Int) (k:Nat):Int:=(a * (b / 2 ^ k)) % 2305843009213693951
theorem dbl_top (a b:Int) (h:okP b):dblTo a b 61=0:=by
 obtain ⟨h0,h1⟩:=h
 have e:b / 2 ^ 61=0:=by
  have:(2:Int) ^ 61=2305843009213693952:=by decide
  rw [this]; omega
 unfold dblTo; rw [e,Int.mul_zero]; rfl
theorem dbl_end (a b:Int):dblTo a b 0=mulP a b:=by unfold dblTo mulP; simp
theorem half_pow (b:Int) (k:Nat):b / 2 ^ (k+1)=b / 2 ^ k / 2:=by
 rw [Int.pow_succ,Int.ediv_ediv_of_nonneg (Int.pow_nonneg (by omega))]
theorem dbl_step0 (a b:Int) (k:Nat) (h:b / 2 ^ k % 2=0):(dblTo a b (k+1)+dblTo a b (k+1)) % 2305843009213693951=dblTo a b k:=by
 unfold dblTo
 rw [half_pow]
 generalize b / 2 ^ k=q at *
 have e:a * q=a * (q / 2)+a * (q / 2):=by
  rw [← Int.mul_add]; congr 1; omega
 rw [e]
 omega
theorem dbl_step1 (a b:Int) (k:Nat) (h:b / 2 ^ k % 2=1):((dblTo a b (k+1)+dblTo a b (k+1)) % 2305843009213693951+a) % 2305843009213693951=dblTo a b k:=by
 unfold dblTo
 rw [half_pow]
 generalize b / 2 ^ k=q at *
 have e:a * q=a * (q / 2)+a * (q / 2)+a:=by
  have e1:a * q=a * (q / 2+q / 2+1):=by congr 1; omega
  rw [e1,Int.mul_add,Int.mul_add,Int.mul_one]
 rw [e]
 omega
theorem dbl_ok (a b:Int) (k:Nat):okP (dblTo a b k):=by unfold okP dblTo; omega
def Digit (u d q r:Int):Prop:=0<=q/\q<=4294967296/\r=u - q * 4294967295/\0<=r/\r < 4294967296/\(u * 4294967296+d) / 18446744073709551608<=q
def inU (u d:Int):Prop:=0<=u/\u < 18446744073709551608/\0<=d/\d < 4294967296
theorem ZbW {u d:Int} (h:inU u d):Digit u d (u / 4294967295) (u - u / 4294967295 * 4294967295):=by
 obtain ⟨h0,h1,h2,h3⟩:=h
 refine ⟨by omega,by omega,rfl,by omega,by omega,by omega⟩
theorem ZaZ {u d q r:Int} (h:inU u d) (D:Digit u d q r) (c:4294967296<=q\/4294967296 * r+d < q * 4294967288):1<=q/\(r+4294967295 < 4294967296->Digit u d (q - 1) (r+4294967295))/\(4294967296<=r+4294967295->q - 1=(u * 4294967296+d) / 18446744073709551608):=by
 obtain ⟨h0,h1,h2,h3⟩:=h
 obtain ⟨a0,a1,a2,a3,a4,a5⟩:=D
 have b:(u * 4294967296+d) / 18446744073709551608<=q - 1:=by omega
 refine ⟨by omega,fun g=>⟨by omega,by omega,by omega,by omega,by omega,b⟩,fun g=>by omega⟩
theorem ZcD {u d q r:Int} (D:Digit u d q r) (c:¬ 4294967296 * r+d < q * 4294967288):q=(u * 4294967296+d) / 18446744073709551608:=by
 obtain ⟨a0,a1,a2,a3,a4,a5⟩:=D
 omega
theorem two_digits (hi lo:Int) (h:okP hi) (hl:okW lo) (u d1 d0 v:Int) (hu:u=hi * 8+lo / 2305843009213693952) (hd1:d1=lo * 8 % 18446744073709551616 / 4294967296) (hd0:d0=lo * 8 % 18446744073709551616 % 4294967296)
  (hv:v=(u * 4294967296+d1) % 18446744073709551608):inU u d1/\inU v d0/\(v * 4294967296+d0) % 18446744073709551608 / 8=(hi * 18446744073709551616+lo) % 2305843009213693951:=by
 obtain ⟨h0,h1⟩:=h
 obtain ⟨l0,l1⟩:=hl
 refine ⟨⟨by omega,by omega,by omega,by omega⟩,⟨by omega,by omega,by omega,by omega⟩,?_⟩
 omega
theorem ZaV {k:IntKind} {a b:Int} (h:a=b):Ending.returned (.int k a)=.returned (.int k b):=by rw [h]
theorem len64_P (w:World):Calls Tryz.prog 161 #[.int .u64 2305843009213693951] w fun e w'=>e=.returned (.int .i64 61)/\w'=w:=by
 go_enter Tryz.func161,Tryz.ntmps161
 go_wp2
 go_ret
 exact ⟨by kernel_rfl,rfl⟩
theorem lead64_P (w:World):Calls Tryz.prog 250 #[.int .u64 2305843009213693951] w fun e w'=>e=.returned (.int .i64 3)/\w'=w:=by
 go_enter Tryz.func250,Tryz.ntmps250
 go_wp2_with (go_at_call 161; refine (len64_P _).mono ?_; rintro e w' ⟨rfl,rfl⟩)
 go_ret
 exact ⟨rfl,rfl⟩
theorem or_low (hi lo:Int) (h:okP hi) (hl:okW lo):bits .or .u64 (hi * 8) (lo / 2305843009213693952)=hi * 8+lo / 2305843009213693952:=by
 obtain ⟨h0,h1⟩:=h
 obtain ⟨l0,l1⟩:=hl
 have e:=bits_or_u64_nat (hi.toNat * 8) (lo.toNat / 2305843009213693952) (by omega) (by omega)
 have e2:=Nat.shiftLeft_add_eq_or_of_lt (i:=3) (b:=lo.toNat / 2305843009213693952) (by omega) hi.toNat
 rw [Nat.shiftLeft_eq] at e2
 rw [← e2] at e
 have c1:((hi.toNat * 8:Nat):Int)=hi * 8:=by omega
 have c2:((lo.toNat / 2305843009213693952:Nat):Int)=lo / 2305843009213693952:=by omega
 rw [c1,c2] at e
 rw [e]
 omega
theorem and_low (n:Int) (h:okW n):bits .and .u64 n 4294967295=n % 4294967296:=by
 obtain ⟨h0,h1⟩:=h
 have e:=bits_and_u64_nat n.toNat 4294967295 (by omega) (by omega)
 have e2:n.toNat &&& 4294967295=n.toNat % 4294967296:=Nat.and_two_pow_sub_one_eq_mod n.toNat 32
 rw [e2] at e
 have c1:((n.toNat:Nat):Int)=n:=by omega
 rw [c1] at e
 rw [show ((4294967295:Nat):Int)=4294967295 from rfl] at e
 rw [e]
 omega
theorem wrap_word (x:Int) (h0:0<=x) (h1:x < 18446744073709551616):IntKind.u64.wrap x=x:=by rw [IntKind.wrap_u64]; omega
theorem Zbu {u d q:Int} (h:inU u d) (hq:q=(u * 4294967296+d) / 18446744073709551608) :
  IntKind.u64.wrap (IntKind.u64.wrap (IntKind.u64.wrap (u * 4294967296)+d) - IntKind.u64.wrap (q * 18446744073709551608))=(u * 4294967296+d) % 18446744073709551608:=by
 obtain ⟨h0,h1,h2,h3⟩:=h
 simp only [IntKind.wrap_u64]
 omega
theorem first_q {u d:Int} (h:inU u d):IntKind.u64.wrap (u.tdiv 4294967295)=u / 4294967295:=by
 obtain ⟨h0,h1,h2,h3⟩:=h
 rw [Int.tdiv_eq_ediv_of_nonneg h0,wrap_word _ (by omega) (by omega)]
theorem first_r {u d:Int} (h:inU u d):IntKind.u64.wrap (u - IntKind.u64.wrap (u / 4294967295 * 4294967295))=u - u / 4294967295 * 4294967295:=by
 obtain ⟨h0,h1,h2,h3⟩:=h
 simp only [IntKind.wrap_u64]
 omega
theorem div64_P (hi lo:Int) (h:okP hi) (hl:okW lo) (w:World):Calls Tryz.prog 249 #[.int .u64 hi,.int .u64 lo,.int .u64 2305843009213693951] w fun e w' =>
  (∃ q,e=.returned (.tuple #[.int .u64 q,.int .u64 ((hi * 18446744073709551616+lo) % 2305843009213693951)]))/\∃ k,w'=w.drewN k:=by
 have hor:=or_low hi lo h hl
 obtain ⟨u,hu⟩:∃ u,u=hi * 8+lo / 2305843009213693952:=⟨_,rfl⟩
 obtain ⟨d1,hd1⟩:∃ u,u=lo * 8 % 18446744073709551616 / 4294967296:=⟨_,rfl⟩
 obtain ⟨d0,hd0⟩:∃ u,u=lo * 8 % 18446744073709551616 % 4294967296:=⟨_,rfl⟩
 obtain ⟨v,hv⟩:∃ v,v=(u * 4294967296+d1) % 18446744073709551608:=⟨_,rfl⟩
 obtain ⟨U1,U0,hend⟩:=two_digits hi lo h hl u d1 d0 v hu hd1 hd0 hv
 obtain ⟨h0,h1⟩:=h
 obtain ⟨l0,l1⟩:=hl
 have eand:=and_low (lo * 8 % 18446744073709551616) ⟨by omega,by omega⟩
 have HW:Hid (IntKind.u64.wrap (lo * 8)=lo * 8 % 18446744073709551616):=IntKind.wrap_u64 _
 have HO:Hid (bits .or .u64 (hi * 8) (lo / 2305843009213693952)=u):=hor.trans hu.symm
 have HA:Hid (bits .and .u64 (lo * 8 % 18446744073709551616) 4294967295=d0):=eand.trans hd0.symm
 have HY:Hid (bits .and .u64 18446744073709551608 4294967295=4294967288):=by rw [and_low _ ⟨by omega,by omega⟩]; rfl
 have H1:Hid (lo * 8 % 18446744073709551616 / 4294967296=d1):=hd1.symm
 have HV:Hid (v=(u * 4294967296+d1) % 18446744073709551608):=hv
 have HE:Hid ((v * 4294967296+d0) % 18446744073709551608 / 8=(hi * 18446744073709551616+lo) % 2305843009213693951):=hend
 have HU1:Hid (inU u d1):=U1
 have HU0:Hid (inU v d0):=U0
 obtain ⟨u0,u1,e0,e1⟩:=U1
 obtain ⟨v0,v1,f0,f1⟩:=U0
 clear hor eand hu hd1 hd0 hv hend
 by_cases hz:hi=0
 ·subst hz
  go_enter Tryz.func249,Tryz.ntmps249
  go_wp2
  go_quiet (fail)
  go_wp2
  go_ret2
  rw [Int.zero_mul,Int.zero_add]
  exact ⟨⟨_,rfl⟩,nq,rfl⟩
 ·have hz':(hi == 0)=false:=by simpa using hz
  go_enter Tryz.func249,Tryz.ntmps249
  go_wp2_with (go_at_call 250; refine (lead64_P _).mono ?_; rintro e w' ⟨rfl,rfl⟩)
  rw [HO.out,HW.out,HA.out,HY.out,H1.out,first_q HU1.out,first_r HU1.out]
  go_loop [15,16] (fun q r=>∃ q1 r1:Int,q=.int .u64 q1/\r=.int .u64 r1/\Digit u d1 q1 r1) (fun q _=>(intOf q).toNat)
  case atStart=>exact ⟨_,_,rfl,rfl,ZbW HU1.out⟩
  case round =>
   obtain ⟨q1,r1,rfl,rfl,D⟩:=hrel
   have D0:=D
   obtain ⟨a0,a1,-,a3,a4,-⟩:=D0
   by_cases c1:4294967296<=q1
   ·obtain ⟨g1,g2,g3⟩:=ZaZ HU1.out D (.inl c1)
    have G2:Hid (r1+4294967295 < 4294967296->Digit u d1 (q1 - 1) (r1+4294967295)):=g2
    have G3:Hid (4294967296<=r1+4294967295->q1 - 1=(u * 4294967296+d1) / 18446744073709551608):=g3
    clear g2 g3
    by_cases c3:4294967296<=r1+4294967295
    ·go_wp2
     rw [Zbu HU1.out (G3.out c3),← HV.out,first_q HU0.out,first_r HU0.out]
     go_loop [18,16] (fun q r=>∃ q0 r0:Int,q=.int .u64 q0/\r=.int .u64 r0/\Digit v d0 q0 r0) (fun q _=>(intOf q).toNat)
     case atStart=>exact ⟨_,_,rfl,rfl,ZbW HU0.out⟩
     case round =>
      obtain ⟨q0,r0,rfl,rfl,E⟩:=hrel
      have E0:=E
      obtain ⟨a0,a1,-,a3,a4,-⟩:=E0
      by_cases k1:4294967296<=q0
      ·obtain ⟨g1,g2,g3⟩:=ZaZ HU0.out E (.inl k1)
       have K2:Hid (r0+4294967295 < 4294967296->Digit v d0 (q0 - 1) (r0+4294967295)):=g2
       have K3:Hid (4294967296<=r0+4294967295->q0 - 1=(v * 4294967296+d0) / 18446744073709551608):=g3
       clear g2 g3
       by_cases k3:4294967296<=r0+4294967295
       ·go_wp2
        rw [Zbu HU0.out (K3.out k3),HE.out]
        go_ret2
        exact ⟨⟨_,rfl⟩,0,rfl⟩
       ·go_wp2
        go_round
        case rel=>exact ⟨_,_,rfl,rfl,K2.out (by omega)⟩
        case measure=>simp [intOf]; omega
      ·by_cases k2:4294967296 * r0+d0 < q0 * 4294967288
       ·obtain ⟨g1,g2,g3⟩:=ZaZ HU0.out E (.inr k2)
        have K2:Hid (r0+4294967295 < 4294967296->Digit v d0 (q0 - 1) (r0+4294967295)):=g2
        have K3:Hid (4294967296<=r0+4294967295->q0 - 1=(v * 4294967296+d0) / 18446744073709551608):=g3
        clear g2 g3
        by_cases k3:4294967296<=r0+4294967295
        ·go_wp2
         rw [Zbu HU0.out (K3.out k3),HE.out]
         go_ret2
         exact ⟨⟨_,rfl⟩,0,rfl⟩
        ·go_wp2
         go_round
         case rel=>exact ⟨_,_,rfl,rfl,K2.out (by omega)⟩
         case measure=>simp [intOf]; omega
       ·go_wp2
        rw [Zbu HU0.out (ZcD E (by omega)),HE.out]
        go_ret2
        exact ⟨⟨_,rfl⟩,0,rfl⟩
    ·go_wp2
     go_round
     case rel=>exact ⟨_,_,rfl,rfl,G2.out (by omega)⟩
     case measure=>simp [intOf]; omega
   ·by_cases c2:4294967296 * r1+d1 < q1 * 4294967288
    ·obtain ⟨g1,g2,g3⟩:=ZaZ HU1.out D (.inr c2)
     have G2:Hid (r1+4294967295 < 4294967296->Digit u d1 (q1 - 1) (r1+4294967295)):=g2
     have G3:Hid (4294967296<=r1+4294967295->q1 - 1=(u * 4294967296+d1) / 18446744073709551608):=g3
     clear g2 g3
     by_cases c3:4294967296<=r1+4294967295
     ·go_wp2
      rw [Zbu HU1.out (G3.out c3),← HV.out,first_q HU0.out,first_r HU0.out]
      go_loop [18,16] (fun q r=>∃ q0 r0:Int,q=.int .u64 q0/\r=.int .u64 r0/\Digit v d0 q0 r0) (fun q _=>(intOf q).toNat)
      case atStart=>exact ⟨_,_,rfl,rfl,ZbW HU0.out⟩
      case round =>
       obtain ⟨q0,r0,rfl,rfl,E⟩:=hrel
       have E0:=E
       obtain ⟨a0,a1,-,a3,a4,-⟩:=E0
       by_cases k1:4294967296<=q0
       ·obtain ⟨g1,g2,g3⟩:=ZaZ HU0.out E (.inl k1)
        have K2:Hid (r0+4294967295 < 4294967296->Digit v d0 (q0 - 1) (r0+4294967295)):=g2
        have K3:Hid (4294967296<=r0+4294967295->q0 - 1=(v * 4294967296+d0) / 18446744073709551608):=g3
        clear g2 g3
        by_cases k3:4294967296<=r0+4294967295
        ·go_wp2
         rw [Zbu HU0.out (K3.out k3),HE.out]
         go_ret2
         exact ⟨⟨_,rfl⟩,0,rfl⟩
        ·go_wp2
         go_round
         case rel=>exact ⟨_,_,rfl,rfl,K2.out (by omega)⟩
         case measure=>simp [intOf]; omega
       ·by_cases k2:4294967296 * r0+d0 < q0 * 4294967288
        ·obtain ⟨g1,g2,g3⟩:=ZaZ HU0.out E (.inr k2)
         have K2:Hid (r0+4294967295 < 4294967296->Digit v d0 (q0 - 1) (r0+4294967295)):=g2
         have K3:Hid (4294967296<=r0+4294967295->q0 - 1=(v * 4294967296+d0) / 18446744073709551608):=g3
         clear g2 g3
         by_cases k3:4294967296<=r0+4294967295
         ·go_wp2
          rw [Zbu HU0.out (K3.out k3),HE.out]
          go_ret2
          exact ⟨⟨_,rfl⟩,0,rfl⟩
         ·go_wp2
          go_round
          case rel=>exact ⟨_,_,rfl,rfl,K2.out (by omega)⟩
          case measure=>simp [intOf]; omega
        ·go_wp2
         rw [Zbu HU0.out (ZcD E (by omega)),HE.out]
         go_ret2
         exact ⟨⟨_,rfl⟩,0,rfl⟩
     ·go_wp2
      go_round
      case rel=>exact ⟨_,_,rfl,rfl,G2.out (by omega)⟩
      case measure=>simp [intOf]; omega
    ·go_wp2
     rw [Zbu HU1.out (ZcD D (by omega)),← HV.out,first_q HU0.out,first_r HU0.out]
     go_loop [18,16] (fun q r=>∃ q0 r0:Int,q=.int .u64 q0/\r=.int .u64 r0/\Digit v d0 q0 r0) (fun q _=>(intOf q).toNat)
     case atStart=>exact ⟨_,_,rfl,rfl,ZbW HU0.out⟩
     case round =>
      obtain ⟨q0,r0,rfl,rfl,E⟩:=hrel
      have E0:=E
      obtain ⟨a0,a1,-,a3,a4,-⟩:=E0
      by_cases k1:4294967296<=q0
      ·obtain ⟨g1,g2,g3⟩:=ZaZ HU0.out E (.inl k1)
       have K2:Hid (r0+4294967295 < 4294967296->Digit v d0 (q0 - 1) (r0+4294967295)):=g2
       have K3:Hid (4294967296<=r0+4294967295->q0 - 1=(v * 4294967296+d0) / 18446744073709551608):=g3
       clear g2 g3
       by_cases k3:4294967296<=r0+4294967295
       ·go_wp2
        rw [Zbu HU0.out (K3.out k3),HE.out]
        go_ret2
        exact ⟨⟨_,rfl⟩,0,rfl⟩
       ·go_wp2
        go_round
        case rel=>exact ⟨_,_,rfl,rfl,K2.out (by omega)⟩
        case measure=>simp [intOf]; omega
      ·by_cases k2:4294967296 * r0+d0 < q0 * 4294967288
       ·obtain ⟨g1,g2,g3⟩:=ZaZ HU0.out E (.inr k2)
        have K2:Hid (r0+4294967295 < 4294967296->Digit v d0 (q0 - 1) (r0+4294967295)):=g2
        have K3:Hid (4294967296<=r0+4294967295->q0 - 1=(v * 4294967296+d0) / 18446744073709551608):=g3
        clear g2 g3
        by_cases k3:4294967296<=r0+4294967295
        ·go_wp2
         rw [Zbu HU0.out (K3.out k3),HE.out]
         go_ret2
         exact ⟨⟨_,rfl⟩,0,rfl⟩
        ·go_wp2
         go_round
         case rel=>exact ⟨_,_,rfl,rfl,K2.out (by omega)⟩
         case measure=>simp [intOf]; omega
       ·go_wp2
        rw [Zbu HU0.out (ZcD E (by omega)),HE.out]
        go_ret2
        exact ⟨⟨_,rfl⟩,0,rfl⟩
theorem rem64_P (hi lo:Int) (h:okP hi) (hl:okW lo) (w:World):Calls Tryz.prog 247 #[.int .u64 hi,.int .u64 lo,.int .u64 2305843009213693951] w fun e w' =>
  e=.returned (.int .u64 ((hi * 18446744073709551616+lo) % 2305843009213693951))/\∃ k,w'=w.drewN k:=by
 have h0:=h.1
 have h1:=h.2
 have l0:=hl.1
 have l1:=hl.2
 have hm:hi % 2305843009213693951=hi:=by omega
 go_enter Tryz.func247,Tryz.ntmps247
 go_wp2_with (go_at_call 249; refine (div64_P _ _ ⟨by omega,by omega⟩ hl _).mono ?_; rintro e w' ⟨⟨q,rfl⟩,k,rfl⟩)
 go_ret
 exact ⟨rfl,k,rfl⟩
theorem mul64_nat (x y:Nat) (hx:x < 18446744073709551616) (hy:y < 18446744073709551616) (w:World):Calls Tryz.prog 246 #[.int .u64 x,.int .u64 y] w fun e w' =>
  e=.returned (.tuple #[.int .u64 ((x * y / 18446744073709551616:Nat):Int),.int .u64 ((x * y % 18446744073709551616:Nat):Int)])/\w'=w:=by
 obtain ⟨bd,bt,bw,hhi⟩:=Lib.mul64_hi x y hx hy
 have ba:=Lib.half_mul_le (a:=x / 4294967296) (b:=y / 4294967296) (by omega) (by omega)
 have bb:=Lib.half_mul_le (a:=x / 4294967296) (b:=y % 4294967296) (by omega) (by omega)
 have bc:=Lib.half_mul_le (a:=x % 4294967296) (b:=y / 4294967296) (by omega) (by omega)
 generalize hA:x / 4294967296 * (y / 4294967296)=A at *
 generalize hB:x / 4294967296 * (y % 4294967296)=B at *
 generalize hC:x % 4294967296 * (y / 4294967296)=C at *
 generalize hD:x % 4294967296 * (y % 4294967296)=D at *
 go_enter Tryz.func246,Tryz.ntmps246
 go_wp2
 simp only [Mul64.maskN x hx,Mul64.maskN y hy,Mul64.divN,Mul64.mulN,Mul64.addN,hA,hB,hC,hD,Mul64.wrapN D bd,Mul64.wrapN B (by omega),Mul64.wrapN _ bt,Mul64.maskN _ bt,Mul64.wrapN C (by omega),Mul64.wrapN _ bw,Mul64.wrapN A (by omega),Mul64.wrapN (A+(B+D / 4294967296) / 4294967296) (by omega),Mul64.wrapN (A+(B+D / 4294967296) / 4294967296+((B+D / 4294967296) % 4294967296+C) / 4294967296) (by omega),Mul64.wrapM (x * y)]
 rw [hhi]
 go_ret2
 exact ⟨rfl,rfl⟩
theorem mul64_any (x y:Int) (hx:okW x) (hy:okW y) (w:World):Calls Tryz.prog 246 #[.int .u64 x,.int .u64 y] w fun e w' =>
  e=.returned (.tuple #[.int .u64 (x * y / 18446744073709551616),.int .u64 (x * y % 18446744073709551616)])/\w'=w:=by
 obtain ⟨x0,x1⟩:=hx
 obtain ⟨y0,y1⟩:=hy
 obtain ⟨a,rfl⟩:=Int.eq_ofNat_of_zero_le x0
 obtain ⟨b,rfl⟩:=Int.eq_ofNat_of_zero_le y0
 refine (mul64_nat a b (by omega) (by omega) w).mono ?_
 rintro e w' ⟨rfl,rfl⟩
 refine ⟨?_,rfl⟩
 rw [← Int.natCast_mul]
 rfl
def LstW (w:World) (a:Option Addr) (len cap:Nat) (xs:List Int):Prop :=
 xs.length=len/\len<=cap/\(len=0\/∃ b off,a=some ⟨b,off,none⟩/\b < w.heap.size/\∀ i,i < len->w.cell? ⟨b,off+i,none⟩=some (.int .u64 (xs.getD i 0)))
theorem LstW.len {w:World} {a:Option Addr} {n c:Nat} {xs:List Int} (h:LstW w a n c xs):xs.length=n:=h.1
theorem LstW.cap {w:World} {a:Option Addr} {n c:Nat} {xs:List Int} (h:LstW w a n c xs):n<=c:=h.2.1
theorem LstW.at {w:World} {a:Option Addr} {n c:Nat} {xs:List Int} (h:LstW w a n c xs) (hn:0 < n) :
  ∃ b off,a=some ⟨b,off,none⟩/\b < w.heap.size/\∀ i,i < n->w.cell? ⟨b,off+i,none⟩=some (.int .u64 (xs.getD i 0)):=by
 rcases h.2.2 with h0 | h0
 ·omega
 ·exact h0
theorem LstW.at1 {w:World} {a:Option Addr} {n c:Nat} {xs:List Int} (h:LstW w a n c xs) {k:Nat} (hk:k < n) :
  ∃ b off x,a=some ⟨b,off,none⟩/\b < w.heap.size/\w.cell? ⟨b,off+k,none⟩=some (.int .u64 x)/\Hid (xs.getD k 0=x):=by
 obtain ⟨b,off,e,hs,hc⟩:=h.at (by omega)
 exact ⟨b,off,_,e,hs,hc k hk,rfl⟩
theorem LstW.nil (w:World) (a:Option Addr) (c:Nat):LstW w a 0 c []:=⟨rfl,Nat.zero_le _,.inl rfl⟩
theorem LstW.below {w w':World} {a:Option Addr} {n c:Nat} {xs:List Int} {B:Nat} (h:LstW w a n c xs) (hb:Below B w w') (hB:w.heap.size<=B):LstW w' a n c xs:=by
 refine ⟨h.1,h.2.1,?_⟩
 rcases h.2.2 with h0 | ⟨b,off,e,hs,hc⟩
 ·exact .inl h0
 ·exact .inr ⟨b,off,e,Nat.lt_of_lt_of_le hs hb.size,fun i hi=>(hb.cell (p:=⟨b,off+i,none⟩) (Nat.lt_of_lt_of_le hs hB)).trans (hc i hi)⟩
theorem LstW.drewN {w:World} {a:Option Addr} {n c:Nat} {xs:List Int} (h:LstW w a n c xs) (k:Nat):LstW (w.drewN k) a n c xs:=by
 refine ⟨h.1,h.2.1,?_⟩
 rcases h.2.2 with h0 | ⟨b,off,e,hs,hc⟩
 ·exact .inl h0
 ·exact .inr ⟨b,off,e,hs,fun i hi=>hc i hi⟩
theorem LstW.row {w:World} {b t n:Nat} {f:Nat->Value} {xs:List Int} (h:w.rowIs b t n f) (hl:xs.length=n) (hf:∀ i,i < n->f i=.int .u64 (xs.getD i 0)):LstW w (some ⟨b,0,none⟩) n n xs :=
 ⟨hl,nr,.inr ⟨b,0,rfl,h.lt,fun i hi=>by rw [Nat.zero_add,h.cell hi,hf i hi]⟩⟩
theorem getD_map_word (xs:List Int) (i:Nat) (hi:i < xs.length):(xs.map (Value.int .u64))[i]?=some (.int .u64 (xs.getD i 0)):=by
 simp [hi]
theorem LstW.owned {w:World} {base e n:Nat} {v:Value} {xs:List Int} (h:w.ownsRow base e 1 v n (xs.map (Value.int .u64))) :
  ∃ a c,v=.slice a n c/\LstW w a n c xs:=by
 obtain ⟨hl,h2⟩:=h
 rw [List.length_map,Nat.mul_one] at hl
 rcases h2 with ⟨rfl,rfl⟩ | ⟨g,cap,cur,rfl,_,hh,hle,_,hsz,hcur⟩
 ·rw [List.length_eq_zero_iff] at hl
  subst hl
  exact ⟨none,0,rfl,LstW.nil _ _ _⟩
 ·refine ⟨_,cap,rfl,hl,hle,.inr ⟨g,0,rfl,(Array.getElem?_eq_some_iff.1 hh).1,fun i hi=>?_⟩⟩
  have h3:=getD_map_word xs i (by omega)
  rw [← hcur,Nat.mul_one] at h3
  simp only [World.cell?,hh,Nat.zero_add]
  rw [List.getElem?_take_of_lt hi] at h3
  simpa using h3
theorem LstW.sub {w:World} {b off n c:Nat} {xs:List Int} (h:LstW w (some ⟨b,off,none⟩) n c xs) (hn:0 < n) (lo hi:Nat) (h1:lo<=hi) (h2:hi<=n) :
  LstW w (some ⟨b,off+lo,none⟩) (hi - lo) (c - lo) ((xs.drop lo).take (hi - lo)):=by
 obtain ⟨b',off',e,hs,hc⟩:=h.at hn
 have:=h.len
 have:=h.cap
 simp only [Option.some.injEq,Addr.mk.injEq,and_true] at e
 obtain ⟨rfl,rfl⟩:=e
 refine ⟨by simp; omega,by omega,.inr ⟨b,off+lo,rfl,hs,fun i hi'=>?_⟩⟩
 rw [Nat.add_assoc,hc (lo+i) (by omega)]
 have e:((xs.drop lo).take (hi - lo)).getD i 0=xs.getD (lo+i) 0:=by
  rw [List.getD_eq_getElem?_getD,List.getElem?_take_of_lt hi',List.getElem?_drop,← List.getD_eq_getElem?_getD]
 rw [e]
theorem LstW.at1b {w wr:World} {a:Option Addr} {n c:Nat} {xs:List Int} {B:Nat} (h:LstW w a n c xs) (hb:Below B w wr) (hB:w.heap.size<=B) {k:Nat} (hk:k < n) :
  ∃ b off x,a=some ⟨b,off,none⟩/\b < w.heap.size/\wr.cell? ⟨b,off+k,none⟩=some (.int .u64 x)/\Hid (xs.getD k 0=x):=by
 obtain ⟨b,off,x,e,hs,hc,hx⟩:=h.at1 hk
 exact ⟨b,off,x,e,hs,(hb.cell (p:=⟨b,off+k,none⟩) (Nat.lt_of_lt_of_le hs hB)).trans hc,hx⟩
def rowToW (g:Nat->Int) (k i:Nat):Value:=if i < k then .int .u64 (g i) else .int .u64 0
theorem ZbX {w:World} {b t n k:Nat} {g:Nat->Int} (h:w.rowIs b t n (rowToW g k)):(w.setCell ⟨b,k,none⟩ (.int .u64 (g k))).rowIs b t n (rowToW g (k+1)):=by
 refine (h.set k (.int .u64 (g k))).congr (fun i _=>?_)
 unfold rowToW
 by_cases e:i=k
 ·subst e; rw [if_pos rfl,if_pos (by omega)]
 ·rw [if_neg e]
  by_cases e2:i < k
  ·rw [if_pos e2,if_pos (by omega)]
  ·rw [if_neg e2,if_neg (by omega)]
theorem ZbY {w:World} {b t n:Nat} {g:Nat->Int} (h:w.rowIs b t n (fun _=>.int .u64 0)):w.rowIs b t n (rowToW g 0) :=
 h.congr (fun i _=>by unfold rowToW; rw [if_neg (by omega)])
theorem rowToW_lst {w:World} {b t n:Nat} {g:Nat->Int} (h:w.rowIs b t n (rowToW g n)):LstW w (some ⟨b,0,none⟩) n n ((List.range n).map g) :=
 LstW.row h (by simp) (fun i hi=>by unfold rowToW; rw [if_pos hi]; simp [hi])
theorem ZbE {w:World} {b t n k:Nat} {g:Nat->Int} (h:w.rowIs b t n (rowToW g k)) (hk:k < n):w.cell? ⟨b,k,none⟩=some (.int .u64 0):=by
 rw [h.cell hk]; unfold rowToW; rw [if_neg (by omega)]
theorem dadd_calls (a b:Int) (ha:okP a) (hb:okP b) (w:World):Calls Tryz.prog 233 #[.int .u64 a,.int .u64 b] w fun e w'=>e=.returned (.int .u64 (addP a b))/\w'=w:=by
 obtain ⟨a0,a1⟩:=ha
 obtain ⟨b0,b1⟩:=hb
 go_enter Tryz.func233,Tryz.ntmps233
 go_wp2
 go_ret
 exact ⟨rfl,rfl⟩
theorem prodP (a b:Int) (ha:okP a) (hb:okP b):okP (a * b / 18446744073709551616)/\okW (a * b % 18446744073709551616)/\(a * b / 18446744073709551616 * 18446744073709551616+a * b % 18446744073709551616) % 2305843009213693951=mulP a b:=by
 obtain ⟨a0,a1⟩:=ha
 obtain ⟨b0,b1⟩:=hb
 have h0:0<=a * b:=Int.mul_nonneg a0 b0
 have h1:a * b<=2305843009213693951 * 2305843009213693951:=Int.mul_le_mul (by omega) (by omega) b0 (by omega)
 unfold okP okW mulP
 omega
theorem dmul_calls (a b:Int) (ha:okP a) (hb:okP b) (w:World):Calls Tryz.prog 243 #[.int .u64 a,.int .u64 b] w fun e w'=>e=.returned (.int .u64 (mulP a b))/\∃ k,w'=w.drewN k:=by
 obtain ⟨p0,p1,p2⟩:=prodP a b ha hb
 have wa:okW a:=⟨ha.1,by have:=ha.2; omega⟩
 have wb:okW b:=⟨hb.1,by have:=hb.2; omega⟩
 have c1:=mul64_any a b wa wb w
 generalize a * b / 18446744073709551616=hi at *
 generalize a * b % 18446744073709551616=lo at *
 have P2:Hid ((hi * 18446744073709551616+lo) % 2305843009213693951=mulP a b):=p2
 clear p2
 go_enter Tryz.func243,Tryz.ntmps243
 go_wp2_with (first | (go_at_call 246; refine c1.mono ?_; rintro e w' ⟨rfl,hw'⟩; replace hw':=hw'.symm; subst hw') | (go_at_call 247; refine (rem64_P _ _ p0 p1 _).mono ?_; rintro e w' ⟨rfl,k,rfl⟩; rw [P2.out]))
 go_ret
 exact ⟨rfl,k,rfl⟩
theorem dpower_calls (n:Int) (hn:okP n) (w:World):Calls Tryz.prog 239 #[.int .u64 n] w fun e w'=>e=.returned (.int .u64 (powP n))/\∃ k,w'=w.drewN k:=by
 go_enter Tryz.func239,Tryz.ntmps239
 go_wp2
 go_loopw [3,5] (fun s i wr=>∃ (k d:Nat) (x:Int),k<=4/\i=.int .i64 k/\s=.int .u64 x/\Hid (x=sqTo n k)/\wr=w.drewN d) (fun _ i _=>4 - (intOf i).toNat)
 case atStart=>exact ⟨0,0,_,by omega,rfl,rfl,rfl,rfl⟩
 case round =>
  obtain ⟨k,d,x,hk,rfl,rfl,HX,rfl⟩:=hrel
  have hx:okP x:=by rw [HX.out]; exact sqTo_ok hn k
  by_cases hlt:k < 4
  ·go_wp2_with (go_at_call 243; refine (dmul_calls _ _ hx hx _).mono ?_; rintro e w' ⟨rfl,d2,rfl⟩)
   go_roundw
   case rel=>exact ⟨k+1,_,_,by omega,by go_num,rfl,by rw [HX.out]; rfl,rfl⟩
   case measure=>simp [intOf]; omega
  ·obtain rfl:k=4:=by omega
   go_wp2_with (go_at_call 243; refine (dmul_calls _ _ hx hn _).mono ?_; rintro e w' ⟨rfl,d2,rfl⟩)
   go_ret
   exact ⟨ZaV (by rw [HX.out]; rfl),_,rfl⟩
def fnT (s:Tri) (i:Nat):Value:=if i=0 then .int .u64 s.x else if i=1 then .int .u64 s.y else .int .u64 s.z
def aggT (s:Tri):Value:=.agg #[.int .u64 s.x,.int .u64 s.y,.int .u64 s.z]
theorem lt3 {i:Nat} (h:i < 3):i=0\/i=1\/i=2:=by omega
theorem fnT_at {s:Tri} {i:Nat} (h:i < 3):fnT s i=.int .u64 (s.at i):=by
 rcases lt3 h with rfl | rfl | rfl <;> rfl
theorem fnT_alloc (w:World) (x y z:Int) (t:TypeId):(w.alloc (.cells #[.int .u64 x,.int .u64 y,.int .u64 z] t)).rowIs w.heap.size t 3 (fnT ⟨x,y,z⟩) :=
 World.rowIs_alloc w _ t (fnT ⟨x,y,z⟩) (by
  intro i hi
  rcases lt3 hi with rfl | rfl | rfl <;> rfl)
theorem ZaM {w:World} {b t:Nat} {s:Tri} (h:w.rowIs b t 3 (fnT s)) :
  w.cell? ⟨b,0,none⟩=some (.int .u64 s.x)/\w.cell? ⟨b,1,none⟩=some (.int .u64 s.y)/\w.cell? ⟨b,2,none⟩=some (.int .u64 s.z) :=
 ⟨h.cell (i:=0) (by omega),h.cell (i:=1) (by omega),h.cell (i:=2) (by omega)⟩
theorem fnT_set3 {w:World} {b t:Nat} {f:Nat->Value} (h:w.rowIs b t 3 f) (x y z:Int):(((w.setCell ⟨b,0,none⟩ (.int .u64 x)).setCell ⟨b,1,none⟩ (.int .u64 y)).setCell ⟨b,2,none⟩ (.int .u64 z)).rowIs b t 3 (fnT ⟨x,y,z⟩):=by
 refine (((h.set 0 (.int .u64 x)).set 1 (.int .u64 y)).set 2 (.int .u64 z)).congr (fun i hi=>?_)
 rcases lt3 hi with rfl | rfl | rfl <;> rfl
structure MixRel (t:Nat) (w:World) (s:Tri) (wr:World):Prop where
 box:wr.rowIs w.heap.size t 3 (fnT s)
 res:wr.rowIs (w.heap.size+1) t 3 (fnT ⟨0,0,0⟩)
 old:Below w.heap.size w wr
theorem MixRel.start (t:Nat) (w:World) (x y z:Int):MixRel t w ⟨x,y,z⟩ ((w.alloc (.cells #[.int .u64 x,.int .u64 y,.int .u64 z] t)).alloc (.cells #[.int .u64 0,.int .u64 0,.int .u64 0] t)) :=
 ⟨(fnT_alloc w x y z t).alloc _,by have h:=fnT_alloc (w.alloc (.cells #[.int .u64 x,.int .u64 y,.int .u64 z] t)) 0 0 0 t; simpa using h,(br.alloc nr _).alloc (by simp) _⟩
theorem MixRel.drewN {t:Nat} {w wr:World} {s:Tri} (h:MixRel t w s wr) (d:Nat):MixRel t w s (wr.drewN d):=⟨Zap h.box d,Zap h.res d,Zab h.old d⟩
theorem MixRel.set {t:Nat} {w wr:World} {s:Tri} (h:MixRel t w s wr) (x y z:Int):MixRel t w ⟨x,y,z⟩ (((wr.setCell ⟨w.heap.size,0,none⟩ (.int .u64 x)).setCell ⟨w.heap.size,1,none⟩ (.int .u64 y)).setCell ⟨w.heap.size,2,none⟩ (.int .u64 z)) :=
 ⟨fnT_set3 h.box x y z,((h.res.setOther (by simp) _).setOther (by simp) _).setOther (by simp) _,((h.old.setCell nr _).setCell nr _).setCell nr _⟩
theorem fnT_set0 {w:World} {b t:Nat} {s:Tri} (h:w.rowIs b t 3 (fnT s)) (x:Int):(w.setCell ⟨b,0,none⟩ (.int .u64 x)).rowIs b t 3 (fnT ⟨x,s.y,s.z⟩):=by
 refine (h.set 0 (.int .u64 x)).congr (fun i hi=>?_)
 rcases lt3 hi with rfl | rfl | rfl <;> rfl
structure OfRel (t:Nat) (w:World) (b:Nat) (s:Tri) (wr:World):Prop where
 box:wr.rowIs b t 3 (fnT s)
 ge:w.heap.size<=b
 old:Below w.heap.size w wr
theorem OfRel.start {t:Nat} {w w1:World} (h:Below w.heap.size w w1) (x y z:Int):OfRel t w w1.heap.size ⟨x,y,z⟩ (w1.alloc (.cells #[.int .u64 x,.int .u64 y,.int .u64 z] t)) :=
 ⟨fnT_alloc w1 x y z t,h.size,h.alloc h.size _⟩
theorem OfRel.set0 {t b:Nat} {w wr:World} {s:Tri} (h:OfRel t w b s wr) (x:Int):OfRel t w b ⟨x,s.y,s.z⟩ (wr.setCell ⟨b,0,none⟩ (.int .u64 x)) :=
 ⟨fnT_set0 h.box x,h.ge,h.old.setCell h.ge _⟩
theorem OfRel.drewN {t b:Nat} {w wr:World} {s:Tri} (h:OfRel t w b s wr) (d:Nat):OfRel t w b s (wr.drewN d):=⟨Zap h.box d,h.ge,Zab h.old d⟩
theorem OfRel.below {t b:Nat} {w wr w':World} {s:Tri} (h:OfRel t w b s wr) (hb:Below wr.heap.size wr w'):OfRel t w b s w' :=
 ⟨h.box.of_block (hb.block b h.box.lt),h.ge,h.old.trans (hb.mono h.old.size)⟩
theorem OfRel.set {t b:Nat} {w wr:World} {s:Tri} (h:OfRel t w b s wr) (x y z:Int):OfRel t w b ⟨x,y,z⟩ (((wr.setCell ⟨b,0,none⟩ (.int .u64 x)).setCell ⟨b,1,none⟩ (.int .u64 y)).setCell ⟨b,2,none⟩ (.int .u64 z)) :=
 ⟨fnT_set3 h.box x y z,h.ge,((h.old.setCell h.ge _).setCell h.ge _).setCell h.ge _⟩
theorem LstW.two (w:World) (a b:Int) (t:TypeId):LstW (w.alloc (.cells #[.int .u64 a,.int .u64 b] t)) (some ⟨w.heap.size,0,none⟩) 2 2 [a,b]:=by
 have h:=World.rowIs_alloc w #[.int .u64 a,.int .u64 b] t (fun i=>if i=0 then .int .u64 a else .int .u64 b) (by
  intro i hi
  rcases (show i = 0 ∨ i = 1 from by have : i < 2 := hi
                                     omega) with rfl | rfl <;> rfl)
 refine LstW.row h rfl (fun i hi=>?_)
 rcases (show i=0\/i=1 from by omega) with rfl | rfl <;> rfl
theorem dmix_calls (s:Tri) (hs:s.ok) (w:World):Calls Tryz.prog 232 #[.agg #[.int .u64 s.x,.int .u64 s.y,.int .u64 s.z]] w fun e w'=>e=.returned (aggT (mixP s))/\Below w.heap.size w w':=by
 have HS:Hid s.ok:=hs
 clear hs
 go_enter Tryz.func232,Tryz.ntmps232
 go_wp2
 go_loopw [3] (fun i wr=>∃ (k:Nat) (n:Int) (t:Tri),k<=6/\i=.int .u64 n/\n=(k:Int)+1/\Hid (t=mixTo s k)/\MixRel 258 w t wr) (fun i _=>7 - (intOf i).toNat)
 case atStart=>exact ⟨0,1,s,by omega,rfl,rfl,rfl,MixRel.start _ _ _ _ _⟩
 case round =>
  obtain ⟨k,n,t,hk,rfl,hn,HT,R⟩:=hrel
  obtain ⟨c0,c1,c2⟩:=ZaM R.box
  have HN:Hid (n=(k:Int)+1):=hn
  by_cases hlt:n<=6
  ·have ht:t.ok:=by rw [HT.out]; exact mixTo_ok HS.out k
   obtain ⟨t0,t1,t2⟩:=ht
   have n1:okP n:=⟨by omega,by omega⟩
   have n2:okP (2 * n):=⟨by omega,by omega⟩
   have n3:okP (3 * n):=⟨by omega,by omega⟩
   have m0:1<=n:=by omega
   have f0:=R.box.frozen 0
   have f1:=R.box.frozen 1
   have f2:=R.box.frozen 2
   have HM:Hid (sums (pows n t)=mixTo s (k+1)):=by rw [hn,HT.out]; rfl
   clear hn
   go_wp2_with (first | (go_at_call 233; refine (dadd_calls _ _ (by with_reducible first | exact powP_ok _ | exact ZbD _ _ | assumption) (by with_reducible first | exact powP_ok _ | exact ZbD _ _ | assumption) _).mono ?_; rintro e w' ⟨rfl,hw'⟩; replace hw':=hw'.symm; subst hw') | (go_at_call 239; refine (dpower_calls _ (by with_reducible exact ZbD _ _) _).mono ?_; rintro e w' ⟨rfl,d,rfl⟩))
   go_roundw
   case rel =>
    have hn:=HN.out
    exact ⟨k+1,_,_,by omega,rfl,by omega,HM.out,(R.drewN _).set _ _ _⟩
   case measure=>simp [intOf]; omega
  ·have e7:n=7:=by omega
   subst e7
   obtain rfl:k=6:=by omega
   obtain ⟨r0,r1,r2⟩:=ZaM R.res
   have f0:=R.res.frozen 0
   have f1:=R.res.frozen 1
   have f2:=R.res.frozen 2
   go_wp2
   have hq:=fnT_set3 R.res t.x t.y t.z
   obtain ⟨q0,q1,q2⟩:=ZaM hq
   refine bodyPost_ret (v:=aggT t) (by simp [results,Tryz.results232,go_sem,q0,q1,q2,aggT]) rfl ⟨by rw [HT.out]; rfl,?_⟩
   exact ((R.old.setCell (Nat.le_succ _) _).setCell (Nat.le_succ _) _).setCell (Nat.le_succ _) _
theorem dmix3 (x y z:Int) (hx:okP x) (hy:okP y) (hz:okP z) (w:World):Calls Tryz.prog 232 #[.agg #[.int .u64 x,.int .u64 y,.int .u64 z]] w fun e w' =>
  ∃ m:Tri,Hid (m=mixP ⟨x,y,z⟩)/\e=.returned (.agg #[.int .u64 m.x,.int .u64 m.y,.int .u64 m.z])/\Below w.heap.size w w':=by
 refine (dmix_calls ⟨x,y,z⟩ ⟨hx,hy,hz⟩ w).mono ?_
 rintro e w' ⟨rfl,h⟩
 exact ⟨_,rfl,rfl,h⟩
theorem dof_calls (kind:Int) (hk:okW kind) (a:Option Addr) (len cap:Nat) (xs:List Int) (w:World) (ha:LstW w a len cap xs) (hx:okL xs) (hlen:len<=200) :
  Calls Tryz.prog 216 #[.int .u64 kind,.slice a len cap] w fun e w'=>e=.returned (.int .u64 (ofP kind xs))/\Below w.heap.size w w':=by
 obtain ⟨k0,k1⟩:=hk
 have p0:okP (kind % 2305843009213693951):=⟨by omega,by omega⟩
 have p1:okP (len:Int):=⟨by omega,by omega⟩
 have p2:okP 1:=⟨by omega,by omega⟩
 have HX:Hid (okL xs):=hx
 have HL:Hid (xs.length=len):=ha.len
 clear hx
 go_enter Tryz.func216,Tryz.ntmps216
 go_wp2_with (go_at_call 232; refine (dmix3 _ _ _ p0 p1 p2 _).mono ?_; rintro e w1 ⟨m,HM,rfl,hw1⟩)
 go_loopw [17] (fun i wr=>∃ (k:Nat) (t:Tri),k<=len/\i=.int .i64 k/\Hid (t=ofTo kind xs k)/\OfRel 258 w w1.heap.size t wr) (fun i _=>len - (intOf i).toNat)
 case atStart=>exact ⟨0,m,Nat.zero_le _,rfl,by rw [HM.out,← HL.out]; rfl,OfRel.start hw1 _ _ _⟩
 case round =>
  obtain ⟨k,t,hk,rfl,HT,R⟩:=hrel
  obtain ⟨c0,c1,c2⟩:=ZaM R.box
  by_cases hlt:k < len
  ·obtain ⟨b1,o1,y,rfl,s1,g1,HY⟩:=ha.at1b R.old nr hlt
   have ht:t.ok:=by rw [HT.out]; exact ofTo_ok _ _ _
   obtain ⟨t0,t1,t2⟩:=ht
   have hy:okW y:=by rw [← HY.out]; exact HX.out k (by rw [HL.out]; exact hlt)
   obtain ⟨y0,y1⟩:=hy
   have py:okP (y % 2305843009213693951):=⟨by omega,by omega⟩
   have f0:=R.box.frozen 0
   clear ha
   go_wp2_with (first | (go_at_call 233; refine (dadd_calls _ _ t0 py _).mono ?_; rintro e w' ⟨rfl,hw'⟩; replace hw':=hw'.symm; subst hw'; rw [addP_mod]) | (go_at_call 232; refine (dmix3 _ _ _ (ZbD _ _) t1 t2 _).mono ?_; rintro e w2 ⟨m2,HM2,rfl,hw2⟩; have R2:=(R.set0 _).below hw2; obtain ⟨e0,e1,e2⟩:=ZaM R2.box; have z0:=R2.box.frozen 0; have z1:=R2.box.frozen 1; have z2:=R2.box.frozen 2))
   go_roundw
   case rel=>exact ⟨k+1,_,by omega,by go_num,by rw [HM2.out,HT.out,← HY.out]; rfl,R2.set _ _ _⟩
   case measure=>simp [intOf]; omega
  ·obtain rfl:k=len:=by omega
   go_wp2
   go_ret
   exact ⟨ZaV (by rw [HT.out]; unfold ofP; rw [HL.out]),R.old⟩
def bigI (n:Nat):Int:=if 200 < n then 2 else 0
def ofA (kind:Int) (xs:List Int) (n:Nat):Int:=if 200 < n then 0 else ofP kind xs
theorem dOf_calls (kind:Int) (hk:okW kind) (a:Option Addr) (len cap:Nat) (xs:List Int) (w:World) (ha:LstW w a len cap xs) (hx:okL xs) :
  Calls Tryz.prog 210 #[.int .u64 kind,.slice a len cap] w fun e w'=>e=.returned (.tuple #[.int .u64 (ofA kind xs len),.int .i64 (bigI len)])/\Below w.heap.size w w':=by
 unfold ofA bigI
 by_cases h:200 < len
 ·rw [if_pos h,if_pos h]
  go_enter Tryz.func210,Tryz.ntmps210
  go_wp2
  go_ret2
  exact ⟨rfl,br⟩
 ·rw [if_neg h,if_neg h]
  go_enter Tryz.func210,Tryz.ntmps210
  go_wp2_with (go_at_call 216; refine (dof_calls _ hk _ _ _ xs _ ha hx (by omega)).mono ?_; rintro e w' ⟨rfl,hw⟩)
  go_ret2
  exact ⟨rfl,hw⟩
theorem okL_two {a b:Int} (ha:okW a) (hb:okW b):okL [a,b]:=by
 intro i hi
 rcases (show i=0\/i=1 from by simp at hi; omega) with rfl | rfl
 ·exact ha
 ·exact hb
theorem dPair_calls (a b:Int) (ha:okW a) (hb:okW b) (w:World):Calls Tryz.prog 237 #[.int .u64 a,.int .u64 b] w fun e w'=>e=.returned (.int .u64 (ofP 3 [a,b]))/\Below w.heap.size w w':=by
 go_enter Tryz.func237,Tryz.ntmps237
 go_wp2_with (go_at_call 216; refine (dof_calls _ ⟨by omega,by omega⟩ _ _ _ [a,b] _ (LstW.two _ _ _ _) (okL_two ha hb) (by omega)).mono ?_; rintro e w' ⟨rfl,hw⟩)
 go_ret
 exact ⟨rfl,(br.alloc nr _).trans (hw.mono (by simp))⟩
theorem dWord_calls (a b:Int) (ha:okW a) (hb:okW b) (w:World):Calls Tryz.prog 180 #[.int .u64 a,.int .u64 b] w fun e w'=>e=.returned (.int .u64 (ofP 2 [a,b]))/\Below w.heap.size w w':=by
 go_enter Tryz.func180,Tryz.ntmps180
 go_wp2_with (go_at_call 216; refine (dof_calls _ ⟨by omega,by omega⟩ _ _ _ [a,b] _ (LstW.two _ _ _ _) (okL_two ha hb) (by omega)).mono ?_; rintro e w' ⟨rfl,hw⟩)
 go_ret
 exact ⟨rfl,(br.alloc nr _).trans (hw.mono (by simp))⟩
def numG (xs:List Int) (i:Nat):Int:=boundP (xs.getD i 0)
def numL (xs:List Int) (n:Nat):List Int:=if 200 < n then [] else (List.range n).map (numG xs)
theorem bound_min (x:Int):(if 4294967296 < if x < -4294967296 then -4294967296 else x then 4294967296 else if x < -4294967296 then -4294967296 else x)+4294967296=boundP x:=by
 unfold boundP
 by_cases h:x < -4294967296
 ·rw [if_pos h,if_pos h,if_neg (by omega)]
 ·rw [if_neg h,if_neg h]
theorem infoW:(Tryz.prog.info? 48).map (fun i=>(i.zero,i.size,i.bytes))=some (some (.int .u64 0),1,8):=by kernel_rfl
theorem dNumbers_calls (a:Option Addr) (la ca:Nat) (xs:List Int) (w:World) (ha:Lst w a la ca xs) :
  Calls Tryz.prog 244 #[.slice a la ca] w fun e w'=>∃ a' n,e=.returned (.tuple #[.slice a' n n,.int .i64 (bigI la)])/\n<=200/\LstW w' a' n n (numL xs la)/\Below w.heap.size w w':=by
 unfold numL bigI
 by_cases hl:200 < la
 ·rw [if_pos hl,if_pos hl]
  clear ha
  go_enter Tryz.func244,Tryz.ntmps244
  go_wp2
  go_ret2
  exact ⟨_,_,rfl,Nat.zero_le _,LstW.nil _ _ _,br⟩
 ·rw [if_neg hl,if_neg hl]
  have hmk:=run_make_row' (P:=Tryz.prog) 144 48 (.int .u64 0) 8 Tryz.underlying144 infoW rfl .i64 .i64 la (by omega) (by omega)
  go_enter Tryz.func244,Tryz.ntmps244
  go_wp2
  go_loopw [15] (fun i wr=>∃ k:Nat,k<=la/\i=.int .i64 k/\wr.rowIs w.heap.size 48 la (rowToW (numG xs) k)/\Below w.heap.size w wr) (fun i _=>la - (intOf i).toNat)
  case atStart=>exact ⟨0,Nat.zero_le _,rfl,ZbY (World.rowIs_made _ _ _ _),br.alloc nr _⟩
  case round =>
   obtain ⟨k,hk,rfl,hrow,hbel⟩:=hrel
   have ha':=ha.below hbel nr
   clear ha hmk
   by_cases hlt:k < la
   ·obtain ⟨b1,o1,x,rfl,_,c1,HX⟩:=ha'.at1 hlt
    have c3:=ZbE hrow hlt
    have f3:=hrow.frozen k
    go_wp2
    rw [bound_min]
    go_roundw
    case rel =>
     have st:=ZbX (g:=numG xs) hrow
     simp only [numG,HX.out] at st
     exact ⟨k+1,by omega,by go_num,st,hbel.setCell nr _⟩
    case measure=>simp [intOf]; omega
   ·go_wp2
    go_ret2
    obtain rfl:k=la:=by omega
    exact ⟨_,_,rfl,by omega,rowToW_lst hrow,hbel⟩
end Go.Proofs.YthmiojmlaclgaaaGreatDoor.Fx
