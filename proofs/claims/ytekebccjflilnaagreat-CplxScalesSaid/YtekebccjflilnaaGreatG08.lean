/-
  ConQ5, ConQ6, ConQ8, ConQ9, ConQA, ConQB, ConQC, RunU, NumPr, NumQu, SuA, SuB, SuC, GnC
-/
import Derived.Test.YtekebccjflilnaaGreatG07
namespace Go.Proofs.YtekebccjflilnaaGreat
open Go.Proofs.Tryz
open Go.KRun Go.Wd
set_option maxRecDepth 100000
theorem ZvV (v0 v1 v14 v15:Value) (up d0 d1 d2 d3 r0 r1 r2 r3 r4 q0 q1 q2 q3:Int) (a b lw:W4) (g:Nat→Value):Rd (Zi prog Zh zk true) f71 2 0 0 v0 v1 v14 v15 up d0 d1 d2 d3 r0 r1 r2 r3 r4 q0 q1 q2 q3 a b lw g:=by and_intros<;>kernel_rfl
theorem ZvW (v0 v1 v14 v15:Value) (up d0 d1 d2 d3 r0 r1 r2 r3 r4 q0 q1 q2 q3:Int) (a b lw:W4) (g:Nat→Value):Rd (Zi prog Zh zk true) f71 2 0 1 v0 v1 v14 v15 up d0 d1 d2 d3 r0 r1 r2 r3 r4 q0 q1 q2 q3 a b lw g:=by and_intros<;>kernel_rfl
theorem ZvX (v0 v1 v14 v15:Value) (up d0 d1 d2 d3 r0 r1 r2 r3 r4 q0 q1 q2 q3:Int) (a b lw:W4) (g:Nat→Value):Rd (Zi prog Zh zk true) f71 2 0 2 v0 v1 v14 v15 up d0 d1 d2 d3 r0 r1 r2 r3 r4 q0 q1 q2 q3 a b lw g:=by and_intros<;>kernel_rfl
theorem ZvY (v0 v1 v14 v15:Value) (up d0 d1 d2 d3 r0 r1 r2 r3 r4 q0 q1 q2 q3:Int) (a b lw:W4) (g:Nat→Value):Rd (Zi prog Zh zk true) f71 2 1 0 v0 v1 v14 v15 up d0 d1 d2 d3 r0 r1 r2 r3 r4 q0 q1 q2 q3 a b lw g:=by and_intros<;>kernel_rfl
theorem ZvZ (v0 v1 v14 v15:Value) (up d0 d1 d2 d3 r0 r1 r2 r3 r4 q0 q1 q2 q3:Int) (a b lw:W4) (g:Nat→Value):Rd (Zi prog Zh zk true) f71 2 1 1 v0 v1 v14 v15 up d0 d1 d2 d3 r0 r1 r2 r3 r4 q0 q1 q2 q3 a b lw g:=by and_intros<;>kernel_rfl
theorem Zwa (v0 v1 v14 v15:Value) (up d0 d1 d2 d3 r0 r1 r2 r3 r4 q0 q1 q2 q3:Int) (a b lw:W4) (g:Nat→Value):Rd (Zi prog Zh zk true) f71 2 1 2 v0 v1 v14 v15 up d0 d1 d2 d3 r0 r1 r2 r3 r4 q0 q1 q2 q3 a b lw g:=by and_intros<;>kernel_rfl
theorem Zwb (v0 v1 v14 v15:Value) (up d0 d1 d2 d3 r0 r1 r2 r3 r4 q0 q1 q2 q3:Int) (a b lw:W4) (g:Nat→Value):Rd (Zi prog Zh zk true) f71 2 2 0 v0 v1 v14 v15 up d0 d1 d2 d3 r0 r1 r2 r3 r4 q0 q1 q2 q3 a b lw g:=by and_intros<;>kernel_rfl
theorem Zwc (v0 v1 v14 v15:Value) (up d0 d1 d2 d3 r0 r1 r2 r3 r4 q0 q1 q2 q3:Int) (a b lw:W4) (g:Nat→Value):Rd (Zi prog Zh zk true) f71 2 2 1 v0 v1 v14 v15 up d0 d1 d2 d3 r0 r1 r2 r3 r4 q0 q1 q2 q3 a b lw g:=by and_intros<;>kernel_rfl
theorem Zwd (v0 v1 v14 v15:Value) (up d0 d1 d2 d3 r0 r1 r2 r3 r4 q0 q1 q2 q3:Int) (a b lw:W4) (g:Nat→Value):Rd (Zi prog Zh zk true) f71 2 2 2 v0 v1 v14 v15 up d0 d1 d2 d3 r0 r1 r2 r3 r4 q0 q1 q2 q3 a b lw g:=by and_intros<;>kernel_rfl
theorem Zwe (v0 v1 v14 v15:Value) (up d0 d1 d2 d3 r0 r1 r2 r3 r4 q0 q1 q2 q3:Int) (a b lw:W4) (g:Nat→Value):Rd (Zi prog Zh zk true) f71 3 0 0 v0 v1 v14 v15 up d0 d1 d2 d3 r0 r1 r2 r3 r4 q0 q1 q2 q3 a b lw g:=by and_intros<;>kernel_rfl
theorem Zwf (v0 v1 v14 v15:Value) (up d0 d1 d2 d3 r0 r1 r2 r3 r4 q0 q1 q2 q3:Int) (a b lw:W4) (g:Nat→Value):Rd (Zi prog Zh zk true) f71 3 0 1 v0 v1 v14 v15 up d0 d1 d2 d3 r0 r1 r2 r3 r4 q0 q1 q2 q3 a b lw g:=by and_intros<;>kernel_rfl
theorem Zwg (v0 v1 v14 v15:Value) (up d0 d1 d2 d3 r0 r1 r2 r3 r4 q0 q1 q2 q3:Int) (a b lw:W4) (g:Nat→Value):Rd (Zi prog Zh zk true) f71 3 0 2 v0 v1 v14 v15 up d0 d1 d2 d3 r0 r1 r2 r3 r4 q0 q1 q2 q3 a b lw g:=by and_intros<;>kernel_rfl
theorem Zwh (v0 v1 v14 v15:Value) (up d0 d1 d2 d3 r0 r1 r2 r3 r4 q0 q1 q2 q3:Int) (a b lw:W4) (g:Nat→Value):Rd (Zi prog Zh zk true) f71 3 1 0 v0 v1 v14 v15 up d0 d1 d2 d3 r0 r1 r2 r3 r4 q0 q1 q2 q3 a b lw g:=by and_intros<;>kernel_rfl
theorem Zwi (v0 v1 v14 v15:Value) (up d0 d1 d2 d3 r0 r1 r2 r3 r4 q0 q1 q2 q3:Int) (a b lw:W4) (g:Nat→Value):Rd (Zi prog Zh zk true) f71 3 1 1 v0 v1 v14 v15 up d0 d1 d2 d3 r0 r1 r2 r3 r4 q0 q1 q2 q3 a b lw g:=by and_intros<;>kernel_rfl
theorem Zwj (v0 v1 v14 v15:Value) (up d0 d1 d2 d3 r0 r1 r2 r3 r4 q0 q1 q2 q3:Int) (a b lw:W4) (g:Nat→Value):Rd (Zi prog Zh zk true) f71 3 1 2 v0 v1 v14 v15 up d0 d1 d2 d3 r0 r1 r2 r3 r4 q0 q1 q2 q3 a b lw g:=by and_intros<;>kernel_rfl
theorem Zwk (v0 v1 v14 v15:Value) (up d0 d1 d2 d3 r0 r1 r2 r3 r4 q0 q1 q2 q3:Int) (a b lw:W4) (g:Nat→Value):Rd (Zi prog Zh zk true) f71 4 0 0 v0 v1 v14 v15 up d0 d1 d2 d3 r0 r1 r2 r3 r4 q0 q1 q2 q3 a b lw g:=by and_intros<;>kernel_rfl
theorem Zwl (v0 v1 v14 v15:Value) (up d0 d1 d2 d3 r0 r1 r2 r3 r4 q0 q1 q2 q3:Int) (a b lw:W4) (g:Nat→Value):Rd (Zi prog Zh zk true) f71 4 0 1 v0 v1 v14 v15 up d0 d1 d2 d3 r0 r1 r2 r3 r4 q0 q1 q2 q3 a b lw g:=by and_intros<;>kernel_rfl
theorem Zwm (v0 v1 v14 v15:Value) (up d0 d1 d2 d3 r0 r1 r2 r3 r4 q0 q1 q2 q3:Int) (a b lw:W4) (g:Nat→Value):Rd (Zi prog Zh zk true) f71 4 0 2 v0 v1 v14 v15 up d0 d1 d2 d3 r0 r1 r2 r3 r4 q0 q1 q2 q3 a b lw g:=by and_intros<;>kernel_rfl
end Go.Proofs.YtekebccjflilnaaGreat
namespace Go.Proofs.YtekebccjflilnaaGreat
open Go.Proofs.Tryz
open Go.IntKind
open Go.KRun Go.Wd
set_option maxRecDepth 100000
theorem Zwn {n i c:Nat}(hn:1≤n) (hi:n+i≤4) (hc:c<3) {ds rs qs:List Int}(ld:ds.length=4) (lr:rs.length=5) (lq:qs.length=4) (v0 v1 v14 v15:Value) (up:Int) (a b lw:W4) (g:Nat→Value):
  Zm (evC (Zi prog Zh zk true) 500 false (ZkU f71) (qFr v0 v1 n up i v14 v15++tl 70 g,qHp a b lw ds rs qs,tkS n c) ⟨[],[],[]⟩) 16 70 none (qFr v0 v1 n up (i64.wrap ((i:Int)-1)) v14 v15)
   (qHp a b lw ds (rs.take i++(tkO n c (ds.take n) ((rs.drop i).take (n+1))++rs.drop (i+n+1))) (qs.set i (tkD n c (ds.take n) ((rs.drop i).take (n+1))))) (tkG n c (ds.take n) ((rs.drop i).take (n+1))):=by
 match ds,ld,rs,lr,qs,lq with
 | [d0,d1,d2,d3],_,[r0,r1,r2,r3,r4],_,[q0,q1,q2,q3],_=>
  have hn':n=1∨n=2∨n=3∨n=4:=by omega
  have hc':c=0∨c=1∨c=2:=by omega
  rcases hn' with rfl | rfl | rfl | rfl
  ·have hi':i=0∨i=1∨i=2∨i=3:=by omega
   rcases hi' with rfl | rfl | rfl | rfl
   ·rcases hc' with rfl | rfl | rfl
    ·exact ZvJ v0 v1 v14 v15 up d0 d1 d2 d3 r0 r1 r2 r3 r4 q0 q1 q2 q3 a b lw g
    ·exact ZvK v0 v1 v14 v15 up d0 d1 d2 d3 r0 r1 r2 r3 r4 q0 q1 q2 q3 a b lw g
    ·exact ZvL v0 v1 v14 v15 up d0 d1 d2 d3 r0 r1 r2 r3 r4 q0 q1 q2 q3 a b lw g
   ·rcases hc' with rfl | rfl | rfl
    ·exact ZvM v0 v1 v14 v15 up d0 d1 d2 d3 r0 r1 r2 r3 r4 q0 q1 q2 q3 a b lw g
    ·exact ZvN v0 v1 v14 v15 up d0 d1 d2 d3 r0 r1 r2 r3 r4 q0 q1 q2 q3 a b lw g
    ·exact ZvO v0 v1 v14 v15 up d0 d1 d2 d3 r0 r1 r2 r3 r4 q0 q1 q2 q3 a b lw g
   ·rcases hc' with rfl | rfl | rfl
    ·exact ZvP v0 v1 v14 v15 up d0 d1 d2 d3 r0 r1 r2 r3 r4 q0 q1 q2 q3 a b lw g
    ·exact ZvQ v0 v1 v14 v15 up d0 d1 d2 d3 r0 r1 r2 r3 r4 q0 q1 q2 q3 a b lw g
    ·exact ZvR v0 v1 v14 v15 up d0 d1 d2 d3 r0 r1 r2 r3 r4 q0 q1 q2 q3 a b lw g
   ·rcases hc' with rfl | rfl | rfl
    ·exact ZvS v0 v1 v14 v15 up d0 d1 d2 d3 r0 r1 r2 r3 r4 q0 q1 q2 q3 a b lw g
    ·exact ZvT v0 v1 v14 v15 up d0 d1 d2 d3 r0 r1 r2 r3 r4 q0 q1 q2 q3 a b lw g
    ·exact ZvU v0 v1 v14 v15 up d0 d1 d2 d3 r0 r1 r2 r3 r4 q0 q1 q2 q3 a b lw g
  ·have hi':i=0∨i=1∨i=2:=by omega
   rcases hi' with rfl | rfl | rfl
   ·rcases hc' with rfl | rfl | rfl
    ·exact ZvV v0 v1 v14 v15 up d0 d1 d2 d3 r0 r1 r2 r3 r4 q0 q1 q2 q3 a b lw g
    ·exact ZvW v0 v1 v14 v15 up d0 d1 d2 d3 r0 r1 r2 r3 r4 q0 q1 q2 q3 a b lw g
    ·exact ZvX v0 v1 v14 v15 up d0 d1 d2 d3 r0 r1 r2 r3 r4 q0 q1 q2 q3 a b lw g
   ·rcases hc' with rfl | rfl | rfl
    ·exact ZvY v0 v1 v14 v15 up d0 d1 d2 d3 r0 r1 r2 r3 r4 q0 q1 q2 q3 a b lw g
    ·exact ZvZ v0 v1 v14 v15 up d0 d1 d2 d3 r0 r1 r2 r3 r4 q0 q1 q2 q3 a b lw g
    ·exact Zwa v0 v1 v14 v15 up d0 d1 d2 d3 r0 r1 r2 r3 r4 q0 q1 q2 q3 a b lw g
   ·rcases hc' with rfl | rfl | rfl
    ·exact Zwb v0 v1 v14 v15 up d0 d1 d2 d3 r0 r1 r2 r3 r4 q0 q1 q2 q3 a b lw g
    ·exact Zwc v0 v1 v14 v15 up d0 d1 d2 d3 r0 r1 r2 r3 r4 q0 q1 q2 q3 a b lw g
    ·exact Zwd v0 v1 v14 v15 up d0 d1 d2 d3 r0 r1 r2 r3 r4 q0 q1 q2 q3 a b lw g
  ·have hi':i=0∨i=1:=by omega
   rcases hi' with rfl | rfl
   ·rcases hc' with rfl | rfl | rfl
    ·exact Zwe v0 v1 v14 v15 up d0 d1 d2 d3 r0 r1 r2 r3 r4 q0 q1 q2 q3 a b lw g
    ·exact Zwf v0 v1 v14 v15 up d0 d1 d2 d3 r0 r1 r2 r3 r4 q0 q1 q2 q3 a b lw g
    ·exact Zwg v0 v1 v14 v15 up d0 d1 d2 d3 r0 r1 r2 r3 r4 q0 q1 q2 q3 a b lw g
   ·rcases hc' with rfl | rfl | rfl
    ·exact Zwh v0 v1 v14 v15 up d0 d1 d2 d3 r0 r1 r2 r3 r4 q0 q1 q2 q3 a b lw g
    ·exact Zwi v0 v1 v14 v15 up d0 d1 d2 d3 r0 r1 r2 r3 r4 q0 q1 q2 q3 a b lw g
    ·exact Zwj v0 v1 v14 v15 up d0 d1 d2 d3 r0 r1 r2 r3 r4 q0 q1 q2 q3 a b lw g
  ·have hi':i=0:=by omega
   subst hi';rcases hc' with rfl | rfl | rfl
   ·exact Zwk v0 v1 v14 v15 up d0 d1 d2 d3 r0 r1 r2 r3 r4 q0 q1 q2 q3 a b lw g
   ·exact Zwl v0 v1 v14 v15 up d0 d1 d2 d3 r0 r1 r2 r3 r4 q0 q1 q2 q3 a b lw g
   ·exact Zwm v0 v1 v14 v15 up d0 d1 d2 d3 r0 r1 r2 r3 r4 q0 q1 q2 q3 a b lw g
theorem Zsv (v0 v1 v14 v15:Value) (n up:Int) (h:Hp) (g:Nat→Value):GoesE (evC (Zi prog Zh zk true) 300 false (ZkU f71) (qFr v0 v1 n up (-1) v14 v15++tl 70 g,h,[cmp false]) ⟨[],[],[]⟩) 16 70 (some (some 0))
  (qFr v0 v1 n up (-1) v14 v15) h [(decide ((-1:Int)≥0),false)]:=by unfold GoesE;kernel_rfl
theorem ZzY (v0 v1 v13 v14 v15:Value) (n up:Int) (h:Hp) (g:Nat→Value):GoesE (evC (Zi prog Zh zk true) 300 false (qRW f71) ([v0,v1,t_ 0,t_ 1,t_ 2,t_ 3,.nilIface,.int .i64 n,.int .i64 up,t_ 4,t_ 5,t_ 6,t_ 7,v13,v14,v15]++tl 70 g,h,[]) ⟨[],[],[]⟩) 16 70 none
  (qFr v0 v1 n up (i64.wrap (4-n)) v14 v15) h []:=by unfold GoesE;kernel_rfl
def upI (b:W4) (n:Int):Int:=i64.wrap (i64.wrap (n*64)-Zgh b)
def Zgw (a:W4) (up:Int):Int:=a.d.fdiv (2^min ((u64.wrap (i64.wrap (64-up))).toNat) 64)
def szI (b:W4):Int:=i64.wrap (i64.wrap (Zgh b+64)-1)
def l4 (x:W4):List Int:=[x.a,x.b,x.c,x.d]
def l5 (x:W4) (t:Int):List Int:=[x.a,x.b,x.c,x.d,t]
def okQ (x:W4):Bool×Bool:=(decide x.ok,true)
theorem Zsw (a b:W4) (n:Int):GoesE (evL (Zi prog Zh zk true) 500 (Z26 f71) ([vW a,vW b]++List.replicate 84 undef,⟨0,[]⟩,[sam false,num n]) ⟨[],[],[]⟩) 16 70 none
  [vW a,vW b,t_ 0,t_ 1,t_ 2,t_ 3,.nilIface,.int .i64 n,.int .i64 (upI b n),t_ 4,t_ 5,t_ 6,t_ 7,undef,undef,undef]
  (qHp a b (Zac a (upI b n)) (l4 (Zac b (upI b n))) (l5 (Zac a (upI b n)) (Zgw a (upI b n))) [0,0,0,0])
  [(decide (u64.wrap (i64.wrap (64-upI b n))<0),false),lk a (upI b n),lk b (upI b n),okQ b,(decide ((64:Int)=0),false),(decide (i64.wrap ((szI b).tdiv 64)=n),true),okQ b,(eqW b ⟨0,0,0,0⟩,false)]:=by unfold GoesE;kernel_rfl
theorem Zsx (v0 v1 v14 v15:Value) (n up i:Int) (a b lw:W4) (ds:List Int) (r0 r1 r2 r3 r4:Int) (q:W4) (g:Nat→Value):
  Zm (evC (Zi prog Zh zk true) 500 false (Z27 f71) (qFr v0 v1 n up i v14 v15++tl 70 g,qHp a b lw ds [r0,r1,r2,r3,r4] (l4 q),[]) ⟨[],[],[]⟩) 7 79 (some none)
   [v0,v1,t_ 0,t_ 1,t_ 2,t_ 3,.nilIface] ⟨9,[cW (Zfe ⟨r0,r1,r2,r3⟩ up),(vQ (l4 q),53),(vQ [r0,r1,r2,r3,r4],129),cW lw,(vQ ds,53),cW (Zfe ⟨r0,r1,r2,r3⟩ up),cW q,cW b,cW a]⟩ [lk ⟨r0,r1,r2,r3⟩ up]:=by and_intros<;>kernel_rfl
end Go.Proofs.YtekebccjflilnaaGreat
namespace Go.Proofs.YtekebccjflilnaaGreat
open Go.KRun Go.Wd
set_option maxRecDepth 100000
theorem Zar {l:List Int}(h:ZT l) (n:Nat):ZT (l.take n):=fun x hx=>h x (List.mem_of_mem_take hx)
theorem ZaD {l:List Int}(h:ZT l) (n:Nat):ZT (l.drop n):=fun x hx=>h x (List.mem_of_mem_drop hx)
theorem Zd5 {l:List Int}(h:ZT l) {n:Nat}(hn:n≤l.length) {D:Int}(hD:D≤18446744073709551616^n) (hl:vB l<D):vB (l.drop n)=0:=by
 have e:=ZS (l.take n) (l.drop n);rw[List.take_append_drop,List.length_take,Nat.min_eq_left hn] at e;have b1:=Zbq _ (Zar h n);have b2:=Zbq _ (ZaD h n);have p:=Zb4 n;rcases Int.lt_or_le (vB (l.drop n)) 1 with hc | hc
 ·omega
 ·have:18446744073709551616^n*1≤18446744073709551616^n*vB (l.drop n):=Int.mul_le_mul_of_nonneg_left hc (Int.le_of_lt p);omega
theorem ZnV {n i:Nat}(hn:1≤n) (hi:n+i≤4) {ds rs qs:List Int}(ld:ds.length=4) (lr:rs.length=5) (lq:qs.length=4) (wd':ZT ds) (wr:ZT rs) (wq:ZT qs) (top:9223372036854775808≤(ds.take n).getD (n-1) 0)
  (h3:vB (rs.drop (i+1))<vB (ds.take n)) (hz:qs.take (i+1)=List.replicate (i+1) 0):
  ∃ c,c<3∧Zx (tkG n c (ds.take n) ((rs.drop i).take (n+1)))∧
   (rs.take i++(tkO n c (ds.take n) ((rs.drop i).take (n+1))++rs.drop (i+n+1))).length=5∧ZT (rs.take i++(tkO n c (ds.take n) ((rs.drop i).take (n+1))++rs.drop (i+n+1)))∧
   (qs.set i (tkD n c (ds.take n) ((rs.drop i).take (n+1)))).length=4∧ZT (qs.set i (tkD n c (ds.take n) ((rs.drop i).take (n+1))))∧
   vB ((rs.take i++(tkO n c (ds.take n) ((rs.drop i).take (n+1))++rs.drop (i+n+1))).drop i)<vB (ds.take n)∧(qs.set i (tkD n c (ds.take n) ((rs.drop i).take (n+1)))).take i=List.replicate i 0∧
   vB (rs.take i++(tkO n c (ds.take n) ((rs.drop i).take (n+1))++rs.drop (i+n+1)))+vB (qs.set i (tkD n c (ds.take n) ((rs.drop i).take (n+1))))*vB (ds.take n)=vB rs+vB qs*vB (ds.take n):=by
 have wy:=Zar wd' n;have ly:(ds.take n).length=n:=by rw[List.length_take];omega
 have lp:((rs.drop i).take (n+1)).length=n+1:=by rw[List.length_take,List.length_drop];omega
 have wp:=Zar (ZaD wr i) (n+1);have by_:=Zbq _ wy;rw[ly] at by_;have z:vB (rs.drop (i+n+1))=0:=by
  have:=Zd5 (ZaD wr (i+1)) (n:=n) (by rw[List.length_drop];omega) (Int.le_of_lt by_.2) h3;rw[List.drop_drop,show i+1+n=i+n+1 from by omega] at this;exact this
 have eP:vB (rs.drop i)=vB ((rs.drop i).take (n+1)):=by
  have e:=ZS ((rs.drop i).take (n+1)) ((rs.drop i).drop (n+1));rw[List.take_append_drop,List.drop_drop,show i+(n+1)=i+n+1 from by omega,z,Int.mul_zero,Int.add_zero] at e;exact e
 have ex:∃ x,rs[i]? =some x:=⟨rs[i]'(by omega),List.getElem?_eq_getElem (by omega)⟩;obtain⟨x,hx⟩:=ex;have wx:zd x:=wr x (List.mem_of_getElem? hx);have ed:rs.drop i=x::rs.drop (i+1):=by
  have hlt:i<rs.length:=by omega
  rw[List.drop_eq_getElem_cons hlt];rw[List.getElem?_eq_getElem hlt] at hx;cases hx;rfl
 have eP2:vB (rs.drop i)=x+18446744073709551616*vB (rs.drop (i+1)):=by rw[ed];rfl
 have hlt:vB ((rs.drop i).take (n+1))<18446744073709551616*vB (ds.take n):=by
  rw[← eP,eP2];unfold zd at wx;omega
 obtain⟨k,rfl⟩:∃ k,n=k+1:=⟨n-1,by omega⟩;rw[Nat.add_sub_cancel] at top;obtain⟨c,hc,t1,t2,t3,t4,t5⟩:=Zsu ly lp wy wp top hlt;have hy0:0<vB (ds.take (k+1)):=by
  have:=Zbq _ (ZaD wr (i+1));omega
 have dm:=Int.mul_ediv_add_emod (vB ((rs.drop i).take (k+1+1))) (vB (ds.take (k+1)));have r1:=Int.emod_lt_of_pos (vB ((rs.drop i).take (k+1+1))) hy0;have hp0:=(Zbq _ wp).1;have q0:0≤vB ((rs.drop i).take (k+1+1))/vB (ds.take (k+1)):=Int.ediv_nonneg hp0 (by omega);have q9:vB ((rs.drop i).take (k+1+1))/vB (ds.take (k+1))<18446744073709551616:=Int.ediv_lt_of_lt_mul hy0 hlt;have lt:(rs.take i).length=i:=by rw[List.length_take];omega
 refine⟨c,hc,t5,?_,?_,by rw[List.length_set];exact lq,?_,?_,?_,?_⟩
 ·rw[List.length_append,List.length_append,lt,t3,List.length_drop];omega
 ·intro d hd;rcases List.mem_append.1 hd with hd | hd
  ·exact Zar wr i d hd
  ·rcases List.mem_append.1 hd with hd | hd
   ·exact t2 d hd
   ·exact ZaD wr _ d hd
 ·intro d hd;rcases List.mem_or_eq_of_mem_set hd with hd | hd
  ·exact wq d hd
  ·rw[hd,t1];exact⟨q0,q9⟩
 ·rw[List.drop_left' lt,ZS,z,t4,Int.mul_zero,Int.add_zero];exact r1
 ·have:qs.take i=List.replicate i 0:=by
   have:=congrArg (List.take i) hz;rw[List.take_take,Nat.min_eq_left (by omega),List.take_replicate,Nat.min_eq_left (by omega)] at this;exact this
  rw[List.take_set_of_le (by omega)];exact this
 ·have e1:=ZS (rs.take i) (rs.drop i);rw[List.take_append_drop,lt,eP] at e1;have e2:vB (rs.take i++(tkO (k+1) c (ds.take (k+1)) ((rs.drop i).take (k+1+1))++rs.drop (i+(k+1)+1)))=vB (rs.take i)+18446744073709551616^i*(vB ((rs.drop i).take (k+1+1)) % vB (ds.take (k+1))):=by
   rw[ZS,ZS,z,t4,Int.mul_zero,Int.add_zero,lt]
  have eq0:qs=List.replicate i 0++0::qs.drop (i+1):=by
   have:=List.take_append_drop (i+1) qs;rw[hz,List.replicate_succ',List.append_assoc] at this;exact this.symm
  have e3:vB (qs.set i (tkD (k+1) c (ds.take (k+1)) ((rs.drop i).take (k+1+1))))=vB qs+18446744073709551616^i*(vB ((rs.drop i).take (k+1+1))/vB (ds.take (k+1))):=by
   rw[t1];generalize vB ((rs.drop i).take (k+1+1))/vB (ds.take (k+1))=q;generalize qs.drop (i+1)=tt at eq0;rw[eq0,List.set_append_right _ _ (by simp),List.length_replicate,Nat.sub_self,List.set_cons_zero,ZS,ZS,List.length_replicate];simp only[vB];rw[Int.mul_add,Int.mul_add];omega
  rw[e1,e2,e3,Int.add_mul];generalize vB ((rs.drop i).take (k+1+1))/vB (ds.take (k+1))=q at*;generalize vB ((rs.drop i).take (k+1+1)) % vB (ds.take (k+1))=r at*;rw[← dm,Int.mul_add,Int.mul_assoc,Int.mul_comm q];omega
end Go.Proofs.YtekebccjflilnaaGreat
namespace Go.Proofs.YtekebccjflilnaaGreat
open Go.Proofs.Tryz
open Go.IntKind
open Go.KRun Go.Wd
set_option maxRecDepth 100000
theorem ZnW {n:Nat}(hn:1≤n) (h4:n≤4) {ds rs0:List Int}(ld:ds.length=4) (lr:rs0.length=5) (wd':ZT ds) (wr:ZT rs0) (top:9223372036854775808≤(ds.take n).getD (n-1) 0) (h3:vB (rs0.drop (5-n))<vB (ds.take n))
  (v0 v1 v14 v15:Value) (up:Int) (a b lw:W4) (g:Nat→Value) (s:List Dec):
  Runs (Zi prog Zh zk true) (.block 0 (.loop (ZkU f71))) (qFr v0 v1 n up (i64.wrap (4-(n:Int))) v14 v15++tl 70 g,qHp a b lw ds rs0 [0,0,0,0],s) fun e y=>match e with
   | none=>∃ (rs qs:List Int) (i:Int) (g:Nat→Value),y.1=qFr v0 v1 n up i v14 v15++tl 70 g∧y.2.1=qHp a b lw ds rs qs∧rs.length=5∧ZT rs∧qs.length=4∧ZT qs∧vB rs<vB (ds.take n)∧vB rs+vB qs*vB (ds.take n)=vB rs0
   | some none=>False
   | some (some _)=>False:=by
 have w0:ZT [0,0,0,0]:=fun d hd=>by
  simp only[List.mem_cons,List.not_mem_nil,or_false,or_self] at hd;rw[hd];unfold zd;omega
 refine Runs.forLoop (n:=5-n) (R:=fun _=>False) (P:=fun y=>∃ (rs qs:List Int) (i:Int) (g:Nat→Value),y.1=qFr v0 v1 n up i v14 v15++tl 70 g∧y.2.1=qHp a b lw ds rs qs∧rs.length=5∧ZT rs∧qs.length=4∧ZT qs∧vB rs<vB (ds.take n)∧vB rs+vB qs*vB (ds.take n)=vB rs0)
  (fun r y=>∃ (rs qs:List Int) (g:Nat→Value),n+r≤5∧y.1=qFr v0 v1 n up ((r:Int)-1) v14 v15++tl 70 g∧y.2.1=qHp a b lw ds rs qs∧rs.length=5∧ZT rs∧qs.length=4∧ZT qs∧vB (rs.drop r)<vB (ds.take n)∧qs.take r=List.replicate r 0∧vB rs+vB qs*vB (ds.take n)=vB rs0) ?_
  ⟨rs0,[0,0,0,0],g,by omega,by rw[ZR (by omega) (by omega),show (4:Int)-n=((5-n:Nat):Int)-1 from by omega],rfl,lr,wr,rfl,w0,h3,by
   have hn':n=1∨n=2∨n=3∨n=4:=by omega
   rcases hn' with rfl | rfl | rfl | rfl<;>rfl,by simp [vB]⟩
 rintro r ⟨t,h',s'⟩ ⟨rs,qs,g,e0,ht,hh,lr,wr,lq,wq,h3,hz,hv⟩;simp only at ht hh;subst ht hh;cases r with
 | zero=>
  refine (Zj (Zf ZbZ) (Zsv v0 v1 v14 v15 n up _ g).t (Zz (by rfl))).mono fun e y he=> ?_;obtain⟨rfl,⟨g',h2⟩,h3'⟩:=he;exact⟨rfl,rs,qs,_,g',h2,h3',lr,wr,lq,wq,h3,hv⟩
 | succ i=>
  obtain⟨c,hc,t1,t2,t3,t4,t5,t6,t7,t8⟩:=ZnV hn (by omega) ld lr lq wd' wr wq top h3 hz;have ei:((i+1:Nat):Int)-1=(i:Int):=by omega
  rw[ei];refine (Zj (Zf ZbZ) (Zwn hn (by omega) hc ld lr lq v0 v1 v14 v15 up a b lw g) t1).mono fun e y he=> ?_;obtain⟨rfl,⟨g',h2⟩,h3'⟩:=he;refine⟨i,by omega,_,_,g',by omega,?_,h3',t2,t3,t4,t5,t6,t7,by rw[t8];exact hv⟩;rw[h2,ZR (by omega) (by omega)]
theorem ZnX (j:Nat):(18446744073709551616:Int)^j=2^(64*j):=by
 rw[show (18446744073709551616:Int)=2^64 from rfl,← Int.pow_mul]
theorem Zql (x:W4):vB (l4 x)=x.val:=by unfold l4 W4.val;simp only[vB];omega
theorem ZnY {x:W4}(h:x.ok):ZT (l4 x):=fun d hd=>by
 obtain⟨y0,y1,y2,y3⟩:=h;unfold l4 at hd;simp only[List.mem_cons,List.not_mem_nil,or_false] at hd;rcases hd with rfl | rfl | rfl | rfl
 ·exact y0
 ·exact y1
 ·exact y2
 ·exact y3
theorem ZfE {x:W4}(hx:x.ok) {u:Nat}(hu:u<64):(Zac x u).ok∧(Zac x u).val=x.val*2^u % 115792089237316195423570985008687907853269984665640564039457584007913129639936:=by
 have b:=W4.val_bd hx;unfold Zac;split
 ·have:u=0:=by omega
  subst this;refine⟨hx,?_⟩;rw[Int.pow_zero,Int.mul_one,Int.emod_eq_of_lt b.1 b.2]
 ·rw[if_neg (by omega),Xg];exact⟨W4.ok_of _,W4.val_of _⟩
theorem Zbr (n:Nat):(0:Int)<2^n:=Int.pow_pos (by omega)
theorem Zsy {a:W4}(ha:a.ok) {u:Nat}(hu:u<64):Zgw a u=a.val*2^u/115792089237316195423570985008687907853269984665640564039457584007913129639936∧0≤Zgw a u∧Zgw a u<18446744073709551616:=by
 have e1:(u64.wrap (i64.wrap (64-(u:Int)))).toNat=64-u:=by
  rw[ZR (by omega) (by omega),ZN (by omega) (by omega)];omega
 obtain⟨h1,h2,h3,h4⟩:=ha;have ed:a.val/6277101735386680763835789423207666416102355444464034512896=a.d:=by unfold W4.val;omega
 have pp:(115792089237316195423570985008687907853269984665640564039457584007913129639936:Int)=6277101735386680763835789423207666416102355444464034512896*2^(64-u)*2^u:=by
  rw[Int.mul_assoc,← Int.pow_add,show 64-u+u=64 from by omega];rfl
 have hp:=Zbr u;have hp2:=Zbr (64-u);have key:Zgw a u=a.val*2^u/115792089237316195423570985008687907853269984665640564039457584007913129639936:=by
  unfold Zgw;rw[e1,show min (64-u) 64=64-u from by omega,Int.fdiv_eq_ediv_of_nonneg _ (by omega),pp,Int.mul_ediv_mul_of_pos_left _ _ hp,← Int.ediv_ediv_of_nonneg (by omega),ed]
 refine⟨key,?_,?_⟩
 ·unfold Zgw;rw[e1,show min (64-u) 64=64-u from by omega,Int.fdiv_eq_ediv_of_nonneg _ (by omega)];exact Int.ediv_nonneg h4.1 (by omega)
 ·unfold Zgw;rw[e1,show min (64-u) 64=64-u from by omega,Int.fdiv_eq_ediv_of_nonneg _ (by omega)];exact Int.lt_of_le_of_lt (Int.ediv_le_self _ h4.1) h4.2
def qrV (q r:W4):Value:= .tuple #[vW q,vW r,.nilIface]
theorem Zcb (k:Nat):((2^k:Nat):Int)=2^k:=by simp
theorem Zsz {b:W4}(hb:b.ok) (hz:b.val≠0):∃ n u:Nat,1≤n∧n≤4∧u<64∧upI b n=u∧i64.wrap ((szI b).tdiv 64)=n∧2^(64*n-1)≤b.val*2^u∧b.val*2^u<2^(64*n):=by
 have bd:=W4.val_bd hb;have hV:b.val.toNat≠0:=by omega
 obtain⟨s1,s2⟩:=bitLen_spec b.val.toNat;have s2:=s2 hV;have hk1:bitLen b.val.toNat≠0:=by intro h0;rw[h0] at s1;simp at s1;omega
 have hk2:bitLen b.val.toNat≤256:=by
  rcases Nat.lt_or_ge 256 (bitLen b.val.toNat) with hh | hh
  ·have h1:2^256≤2^(bitLen b.val.toNat-1):=Nat.pow_le_pow_right (by omega) (by omega);have h2:(2:Nat)^256=115792089237316195423570985008687907853269984665640564039457584007913129639936:=rfl;rw[h2] at h1;omega
  ·exact hh
 have lo:(2:Int)^(bitLen b.val.toNat-1)≤b.val:=by rw[← Zcb];omega
 have hi:b.val<(2:Int)^bitLen b.val.toNat:=by rw[← Zcb];omega
 unfold upI szI Zgh;generalize bitLen b.val.toNat=k at*;have hn:(k+63)/64*64≥k∧(k+63)/64*64<k+64:=by omega
 refine⟨(k+63)/64,(k+63)/64*64-k,by omega,by omega,by omega,?_,?_,?_,?_⟩
 ·rw[ZR (n:=((((k+63)/64:Nat):Int))*64) (by omega) (by omega),ZR (by omega) (by omega)];omega
 ·rw[ZR (n:=(k:Int)+64) (by omega) (by omega),ZR (n:=(k:Int)+64-1) (by omega) (by omega),Int.tdiv_eq_ediv_of_nonneg (by omega),ZR (by omega) (by omega)];omega
 ·rw[show 64*((k+63)/64)-1=(k-1)+((k+63)/64*64-k) from by omega,Int.pow_add];exact Int.mul_le_mul_of_nonneg_right lo (Int.le_of_lt (Zbr _))
 ·have e:64*((k+63)/64)=k+((k+63)/64*64-k):=by omega
  rw[e,Int.pow_add];exact Int.mul_lt_mul_of_pos_right hi (Zbr _)
theorem ZfF {i j:Nat}(h:i≤j):(2:Int)^i≤2^j:=by
 rw[← Zcb,← Zcb];have:=Nat.pow_le_pow_right (n:=2) (by omega) h;omega
theorem Zqm (x:W4) (t:Int):vB (l5 x t)=x.val+115792089237316195423570985008687907853269984665640564039457584007913129639936*t:=by unfold l5 W4.val;simp only[vB];omega
theorem ZnZ {x:W4}(h:x.ok) {t:Int}(ht:0≤t∧t<18446744073709551616):ZT (l5 x t):=fun d hd=>by
 obtain⟨y0,y1,y2,y3⟩:=h;unfold l5 at hd;simp only[List.mem_cons,List.not_mem_nil,or_false] at hd;rcases hd with rfl | rfl | rfl | rfl | rfl
 ·exact y0
 ·exact y1
 ·exact y2
 ·exact y3
 ·exact ht
theorem Zoa {l:List Int}{n:Nat}(hn:1≤n) (hl:l.length=n) (hw:ZT l) (h:2^(64*n-1)≤vB l):9223372036854775808≤l.getD (n-1) 0:=by
 obtain⟨k,rfl⟩:∃ k,n=k+1:=⟨n-1,by omega⟩;obtain⟨d0,dt,e,l0⟩:=ZeL hl;have b0:=Zbq d0 (fun x hx=>hw x (by rw[e];exact List.mem_append_left _ hx));rw[l0] at b0;rw[Nat.add_sub_cancel,e,Zca d0 dt [] l0];rw[e,ZS,l0,show 64*(k+1)-1=64*k+63 from by omega,Int.pow_add,← ZnX] at h;simp only[vB] at h;rw[Int.mul_zero,Int.add_zero,show (2:Int)^63=9223372036854775808 from rfl] at h;rcases Int.lt_or_le dt 9223372036854775808 with hc | hc
 ·exfalso
  have h1:18446744073709551616^k*dt≤18446744073709551616^k*9223372036854775807:=Int.mul_le_mul_of_nonneg_left (by omega) (Int.le_of_lt (Zb4 k));generalize (18446744073709551616:Int)^k=K at*;omega
 ·exact hc
theorem ZfG (a b:W4) (ha:a.ok) (hb:b.ok) (hz:b.val≠0) (w:World):Calls prog 71 #[vW a,vW b] w fun e w'=>e= .returned (qrV (W4.of (a.val/b.val)) (W4.of (a.val % b.val)))∧zg w w':=by
 obtain⟨n,u,n1,n4,hu,eu,en,dlo,dhi⟩:=Zsz hb hz;have ba:=W4.val_bd ha;have bb:=W4.val_bd hb;have hp:=Zbr u;have p256':(2:Int)^256=115792089237316195423570985008687907853269984665640564039457584007913129639936:=rfl;have h256:b.val*2^u<115792089237316195423570985008687907853269984665640564039457584007913129639936:=by
  have:=ZfF (show 64*n≤256 by omega);rw[p256'] at this;omega
 have hD0:0<b.val*2^u:=Int.mul_pos (by omega) hp;obtain⟨ob,vb⟩:=ZfE hb hu;rw[Int.emod_eq_of_lt (by omega) h256] at vb;obtain⟨oa,va⟩:=ZfE ha hu;obtain⟨tp,t0,t9⟩:=Zsy ha hu;have hA:vB (l5 (Zac a u) (Zgw a u))=a.val*2^u:=by
  rw[Zqm,va,tp];have:=Int.mul_ediv_add_emod (a.val*2^u) 115792089237316195423570985008687907853269984665640564039457584007913129639936;omega
 have wds:=ZnY ob;have vds:vB (l4 (Zac b u))=b.val*2^u:=by rw[Zql];exact vb
 have lds:(l4 (Zac b u)).length=4:=rfl;have hdn:vB ((l4 (Zac b u)).take n)=b.val*2^u:=by
  have z:=Zd5 wds (n:=n) (by rw[lds];exact n4) (Int.le_refl _) (by rw[vds,ZnX];exact dhi);have e:=ZS ((l4 (Zac b u)).take n) ((l4 (Zac b u)).drop n);rw[List.take_append_drop,z,vds,Int.mul_zero,Int.add_zero] at e;exact e.symm
 have ltn:((l4 (Zac b u)).take n).length=n:=by rw[List.length_take,lds];omega
 have top:=Zoa n1 ltn (Zar wds n) (by rw[hdn];exact dlo);have wrs:=ZnZ oa ⟨t0,t9⟩;have lrs:(l5 (Zac a u) (Zgw a u)).length=5:=rfl;have h3:vB ((l5 (Zac a u) (Zgw a u)).drop (5-n))<vB ((l4 (Zac b u)).take n):=by
  rw[hdn];refine Int.lt_of_lt_of_le ?_ dlo;have e:=ZS ((l5 (Zac a u) (Zgw a u)).take (5-n)) ((l5 (Zac a u) (Zgw a u)).drop (5-n));rw[List.take_append_drop,hA,List.length_take,lrs,show min (5-n) 5=5-n from by omega] at e;have b0:=(Zbq _ (Zar wrs (5-n))).1;have big:a.val*2^u<2^(256+63):=by
   have h1:a.val*2^u<2^256*2^u:=Int.mul_lt_mul_of_pos_right (by rw[p256'];exact ba.2) hp;rw[← Int.pow_add] at h1;have:=ZfF (show 256+u≤256+63 by omega);omega
  rcases Int.lt_or_le (vB ((l5 (Zac a u) (Zgw a u)).drop (5-n))) (2^(64*n-1)) with hc | hc
  ·exact hc
  ·exfalso
   have h1:18446744073709551616^(5-n)*2^(64*n-1)≤18446744073709551616^(5-n)*vB ((l5 (Zac a u) (Zgw a u)).drop (5-n)):=Int.mul_le_mul_of_nonneg_left hc (Int.le_of_lt (Zb4 _));rw[ZnX,← Int.pow_add,show 64*(5-n)+(64*n-1)=256+63 from by omega,← ZnX] at h1;omega
 have pre:=Zsw a b n;rw[eu] at pre;refine ZaU (T:=(Zi prog Zh zk true)) func71 ZnR (vals:=[vW a,vW b]) (by rfl) (by rfl) (zl (Zf ZbZ) pre.t
  (Za (Xb (by rw[ZR (by omega) (by omega),ZN (by omega) (by omega)];omega)) (Za (Zgf ha (by omega) (by omega)) (Za (Zgf hb (by omega) (by omega)) (Za (Xa hb) (Za (by rfl) (Za (Xa en) (Za (Xa hb) (Zz (by
   show eqW b ⟨0,0,0,0⟩=false;cases h:eqW b ⟨0,0,0,0⟩
   ·rfl
   ·rw[Zbi.1 h] at hz;exact absurd rfl hz))))))))) fun g=> ?_) w
 refine Runs.seq (P1:=fun e y=>e=none∧∃ (rs qs:List Int) (i:Int) (g:Nat→Value),y.1=qFr (vW a) (vW b) n u i undef undef++tl 70 g∧y.2.1=qHp a b (Zac a u) (l4 (Zac b u)) rs qs∧rs.length=5∧ZT rs∧qs.length=4∧ZT qs∧vB rs<b.val*2^u∧vB rs+vB qs*(b.val*2^u)=a.val*2^u) ?_ ?_ (fun e y he=>by cases he.1)
 ·refine Runs.seq (Zj (Zf ZbZ) (ZzY (vW a) (vW b) undef undef undef n u _ g).t Zne) ?_ (fun e y he=>by cases he.1);rintro⟨t,h',s⟩ ⟨_,⟨g',ht⟩,hh⟩;simp only at ht hh;subst ht hh;refine (ZnW n1 n4 lds lrs wds wrs top h3 (vW a) (vW b) undef undef u a b (Zac a u) g' s).mono fun e y he=> ?_;rw[hdn,hA] at he
  match e,he with
  | none,he=>exact⟨rfl,he⟩
 ·rintro⟨t,h',s⟩ ⟨_,rs,qs,i,g',ht,hh,lr,wr,lq,wq,hlt,hv⟩;simp only at ht hh;subst ht hh;have hr0:=(Zbq _ wr).1;have r4z:vB (rs.drop 4)=0:=Zd5 wr (n:=4) (by omega) (by show (115792089237316195423570985008687907853269984665640564039457584007913129639936:Int)≤18446744073709551616^4;decide) (by omega)
  match rs,lr,qs,lq,wr,wq,hr0,r4z,hlt,hv with
  | [r0,r1,r2,r3,r4],_,[q0,q1,q2,q3],_,wr,wq,hr0,r4z,hlt,hv=>
   have okQ':(⟨q0,q1,q2,q3⟩:W4).ok:=⟨wq q0 (by simp),wq q1 (by simp),wq q2 (by simp),wq q3 (by simp)⟩;have okR:(⟨r0,r1,r2,r3⟩:W4).ok:=⟨wr r0 (by simp),wr r1 (by simp),wr r2 (by simp),wr r3 (by simp)⟩;have vq:vB [q0,q1,q2,q3]=(⟨q0,q1,q2,q3⟩:W4).val:=Zql ⟨q0,q1,q2,q3⟩;have e4:r4=0:=by
    simp only[List.drop_succ_cons,List.drop_zero,vB] at r4z;omega
   have vr:vB [r0,r1,r2,r3,r4]=(⟨r0,r1,r2,r3⟩:W4).val:=by
    have:=Zqm ⟨r0,r1,r2,r3⟩ r4;rw[e4,Int.mul_zero,Int.add_zero] at this;rw[e4];exact this
   rw[vq] at hv;rw[vr] at hv hlt hr0;have eA:a.val*2^u=b.val*2^u*(⟨q0,q1,q2,q3⟩:W4).val+(⟨r0,r1,r2,r3⟩:W4).val:=by rw[Int.mul_comm (b.val*2^u)];omega
   have eq:a.val/b.val=(⟨q0,q1,q2,q3⟩:W4).val:=by
    rw[← Int.mul_ediv_mul_of_pos_left a.val b.val hp];exact Zgc eA hr0 hlt
   have er:(⟨r0,r1,r2,r3⟩:W4).val=a.val % b.val*2^u:=by
    have dm:=Int.mul_ediv_add_emod a.val b.val;rw[eq] at dm;have:a.val*2^u=b.val*2^u*(⟨q0,q1,q2,q3⟩:W4).val+a.val % b.val*2^u:=by
     rw[Int.mul_right_comm,← Int.add_mul,dm]
    omega
   have es:Zfe ⟨r0,r1,r2,r3⟩ u=W4.of (a.val % b.val):=by
    unfold Zfe;split
    ·have:u=0:=by omega
     subst this;rw[Int.pow_zero,Int.mul_one] at er;rw[← er,W4.of_val okR]
    ·rw[if_neg (by omega),Xg,er,Int.mul_ediv_cancel _ (by omega)]
   refine (Zj (Zf ZbZ) (Zsx (vW a) (vW b) undef undef n u i a b (Zac a u) (l4 (Zac b u)) r0 r1 r2 r3 r4 ⟨q0,q1,q2,q3⟩ g') (Zz (Zgf okR (by omega) (by omega)))).mono fun e y he=> ?_;obtain⟨rfl,⟨g2,h2⟩,h3'⟩:=he;refine⟨.inr rfl,?_⟩;rw[h2,h3',es,eq,W4.of_val okQ'];rfl
end Go.Proofs.YtekebccjflilnaaGreat
namespace Go.Proofs.YtekebccjflilnaaGreat
open Go.KRun Go.Wd
set_option maxRecDepth 100000
def nz2 (a b:W4):Bool×Bool:=(decide (a.ok∧b.ok∧b.val≠0),true)
def gQR:Ans:=fun vals s=>
 match vals with
 | [x,y]=>
  match w4 x,w4 y with
  | some a,some b=>some (qrV (W4.of (a.val/b.val)) (W4.of (a.val % b.val)),s,[nz2 a b])
  | _,_=>none
 | _=>none
theorem Zwo:ZJ 71 gQR:=by
 intro vals s v s' lg h hl w;unfold gQR at h;split at h
 ·split at h
  ·rename_i a b ha hb;cases h;have h1:=hl _ Xf;simp only[nz2,Xi] at h1;rw[ZbG ha,ZbG hb];exact ZfG a b h1.1 h1.2.1 h1.2.2 w
  ·cases h
 ·cases h
end Go.Proofs.YtekebccjflilnaaGreat
namespace Go.KRun
open Go.RowKit
def RunsW (T:Tab) (c:Code) (x:Lf) (Post:Ex→Lf→Prop):Prop:=
 ∀ m B a w,Rel m B x a w→∀ Q:Exit→Act→World→Prop,(∀ e y,Post e y→∀ m' a' w',Rel m' B y a' w'→Below B w w'→Q (out e) a' w')→c.wp T.P Q a w
theorem Runs.w {T:Tab}{c:Code}{x:Lf}{P:Ex→Lf→Prop}(h:Runs T c x P):RunsW T c x P:=fun m B a w R Q hQ=>h m B a w R Q fun e y he a' w' hR=>by
 obtain⟨m',_,k2,k3,_⟩:=hR;exact hQ e y he m' a' w' k2 k3
theorem RunsW.post {T:Tab}{c:Code}{x:Lf}{P P':Ex→Lf→Prop}(h:RunsW T c x P) (hp:∀ e y,P e y→∃ y',P' e y'∧∀ m B a w,Rel m B y a w→∃ m',Rel m' B y' a w):RunsW T c x P':=
 fun m B a w R Q hQ=>h m B a w R Q fun e y he m' a' w' hR hb=>by
  obtain⟨y',h1,h2⟩:=hp e y he;obtain⟨m2,h3⟩:=h2 m' B a' w' hR;exact hQ e y' h1 m2 a' w' h3 hb
theorem RunsW.mono {T:Tab}{c:Code}{x:Lf}{P P':Ex→Lf→Prop}(h:RunsW T c x P) (hp:∀ e y,P e y→P' e y):RunsW T c x P':=h.post fun e y he=>⟨y,hp e y he,fun m _ _ _ R=>⟨m,R⟩⟩
theorem RunsW.seq {T:Tab}{c1 c2:Code}{x:Lf}{P1 P:Ex→Lf→Prop}(h1:RunsW T c1 x P1) (h2:∀ y,P1 none y→RunsW T c2 y P) (h3:∀ e y,P1 (some e) y→P (some e) y):RunsW T (.seq c1 c2) x P:=by
 intro m B a w R Q hQ;refine wp_seq (h1 m B a w R _ fun e y he m' a' w' hR hb=> ?_)
 match e,he with
 | none,he=>exact h2 y he m' B a' w' hR Q fun e' y' he' m'' a'' w'' hR' hb'=>hQ e' y' he' m'' a'' w'' hR' (hb.trans hb')
 | some none,he=>exact hQ _ _ (h3 none y he) m' a' w' hR hb
 | some (some id),he=>exact hQ _ _ (h3 (some id) y he) m' a' w' hR hb
theorem RunsW.block {T:Tab}{c:Code}{id:Nat}{x:Lf}{P1 P:Ex→Lf→Prop}(h1:RunsW T c x P1) (h2:∀ y,P1 none y→P none y) (h3:∀ y,P1 (some none) y→P (some none) y)
  (h4:∀ y,P1 (some (some id)) y→P none y) (h5:∀ id' y,id'≠id→P1 (some (some id')) y→P (some (some id')) y):RunsW T (.block id c) x P:=by
 intro m B a w R Q hQ;refine wp_block (h1 m B a w R _ fun e y he m' a' w' hR hb=> ?_)
 match e,he with
 | none,he=>exact hQ _ _ (h2 y he) m' a' w' hR hb
 | some none,he=>exact hQ _ _ (h3 y he) m' a' w' hR hb
 | some (some id'),he=>
  simp only[out,Exit.inBlock];by_cases hid:id'=id
  ·subst hid;rw[if_pos rfl];exact hQ _ _ (h4 y he) m' a' w' hR hb
  ·rw[if_neg hid];exact hQ _ _ (h5 id' y hid he) m' a' w' hR hb
theorem RunsW.loop {T:Tab}{c:Code}{P:Ex→Lf→Prop}(Inv:Nat→Lf→Prop) (round:∀ n x,Inv n x→RunsW T c x fun e y=>match e with | none=>∃ n',n'<n∧Inv n' y | some e=>P (some e) y) {n:Nat}{x:Lf}(h0:Inv n x):
  RunsW T (.loop c) x P:=by
 have key:∀ N n x,n<N→Inv n x→∀ m B a w,Rel m B x a w→∀ Q:Exit→Act→World→Prop,(∀ e y,P e y→∀ m' a' w',Rel m' B y a' w'→Below B w w'→Q (out e) a' w')→Code.rounds T.P c Q N a w:=by
  intro N
  induction N with
  | zero=>intro n x hn;omega
  | succ N ih=>
   intro n x hn hI m B a w R Q hQ;rw[rounds_succ];refine round n x hI m B a w R _ fun e y he m' a' w' hR hb=> ?_
   match e,he with
   | none,he=>
    obtain⟨n',hn',hI'⟩:=he;exact ih n' y (by omega) hI' m' B a' w' hR Q fun e' y' he' m'' a'' w'' hR' hb'=>hQ e' y' he' m'' a'' w'' hR' (hb.trans hb')
   | some none,he=>exact hQ _ _ he m' a' w' hR hb
   | some (some id),he=>exact hQ _ _ he m' a' w' hR hb
 intro m B a w R Q hQ;exact wp_loop_rounds (n+1) (key (n+1) n x (by omega) h0 m B a w R Q hQ)
theorem RunsW.script {T:Tab}{c:Code}{t:List Value}{h:Hp}{s s':List Dec}{P:Ex→Lf→Prop}(hr:RunsW T c (t,h,s) P):RunsW T c (t,h,s') P:=
 fun m B a w R Q hQ=>hr m B a w ⟨R.tmps,R.dfr,R.emb,R.wf⟩ Q hQ
theorem Z0 {T:Tab}(hT:TabOk T) {N:Nat}{l:List Code}{X:Code}{t:List Value}{h h':Hp}{s s0:List Dec}{k n:Nat}{e:Ex}{front:List Value}{cs:Log}{P:Ex→Lf→Prop}(hG:Zm (evL T N l (t,h,s) ⟨[],[],[]⟩) k n e front h' cs) (hcs:Zx cs)
  (hX:∀ g,RunsW T X (front++tl n g,h',[]) P):RunsW T (Zaz l X) (t,h,s0) P:=by
 obtain⟨g,s',L,hr,hL⟩:=Zcx hG hcs;have key:∀ (cs:List Code) (x x':Lf) (L L':Lg) (e:Ex),evL T N cs x L=some (e,x',L')→L'.ok→L.ok∧(RunsW T X x' P→RunsW T (Zaz cs X) x P):=by
  intro cs
  induction cs with
  | nil=>
   intro x x' L L' e h hL;simp only[evL] at h;cases h;exact⟨hL,id⟩
  | cons c cs ih=>
   intro x x' L L' e h hL;simp only[evL] at h;split at h
   ·rename_i x1 L1 h1;obtain⟨g1,g3⟩:=ih x1 x' L1 L' e h hL;obtain⟨g4,g5⟩:=(Zhc hT N).1 _ _ _ _ _ _ h1 g1;refine⟨g4,fun hX m B a w R Q hQ=>wp_seq (g5 m B a w R _ fun a' w' hR=> ?_)⟩;obtain⟨m',_,k2,k3,_⟩:=hR;exact g3 hX m' B a' w' k2 Q fun e' y' he' m'' a'' w'' hR' hb'=>hQ e' y' he' m'' a'' w'' hR' (k3.trans hb')
   ·cases h
 have r:=(key l _ _ _ _ _ hr hL).2 (RunsW.script (hX g));exact RunsW.script r
end Go.KRun
namespace Go.Rn
open Go.Nt Go.Wd Go.Pt
def prN (a b:Int):Bool:=sgn a !=sgn b
def prV (a b:Int):Nat:=(sg a).toNat*(sg b).toNat
def prE (a b:Int):Int:=xp a+xp b
theorem ZbB (a b:Int): -2148≤prE a b∧prE a b≤1944:=by
 have h1:=ZbJ a;have h2:=ZbJ b;unfold prE;omega
theorem Zhz (a b:Int):prV a b<81129638414606681695789005144064:=by
 have h1:=ZbK a;have h2:=ZbK b;have:=Nat.mul_le_mul (show (sg a).toNat≤9007199254740991 by omega) (show (sg b).toNat≤9007199254740991 by omega);unfold prV;omega
theorem Zh0 (a b:Int):May (prE a b) (prV a b):=by
 have h1:=ZbB a b;have h2:=Zhz a b;refine⟨?_,by omega,by omega⟩;have:(2:Nat)^128=340282366920938463463374607431768211456:=rfl;omega
def mlP (m a b:Int):Int:=rnP m (prN a b) (prV a b) (prE a b)
def mlF (m a b:Int):Int:=rnF m (prN a b) (prV a b) (prE a b)
theorem ZzZ (m a b:Int):0≤mlP m a b∧mlP m a b≤9218868437227405312:=Zvk _ _ _ _
def fsI (a b c:Int):Int:=smI (-2148) (prN a b) (prE a b) (prV a b) (sgn c) (xp c) (sg c).toNat
def fsN (m a b c:Int):Bool:=sgS m (prN a b) (sgn c) (fsI a b c)
def fsP (m a b c:Int):Int:=rnP m (fsN m a b c) (fsI a b c).natAbs (-2148)
def fsF (m a b c:Int):Int:=rnF m (fsN m a b c) (fsI a b c).natAbs (-2148)
def dvK (A B k:Nat):Nat:=2*(A*2^k/B)+(if A*2^k % B=0 then 0 else 1)
theorem ZkY {A B:Nat}(k:Nat):A*2^k % (B*2^k)=A % B*2^k:=Nat.mul_mod_mul_right (2^k) A B
theorem ZkZ (A B k j:Nat):dvK A B (k+j)/2^(j+1)=A*2^k/B:=by
 have hp:0<2^j:=Nat.pow_pos (by omega);have e1:A*2^(k+j)/B/2^j=A*2^k/B:=by
  rw[Nat.div_div_eq_div_mul,Nat.pow_add,← Nat.mul_assoc,Nat.mul_div_mul_right _ _ hp]
 have:dvK A B (k+j)/2=A*2^(k+j)/B:=by unfold dvK;split<;>omega
 rw[Nat.pow_succ,Nat.mul_comm (2^j) 2,← Nat.div_div_eq_div_mul,this,e1]
theorem Zs0 (A B k j:Nat):stk (dvK A B (k+j)) (j+1)=dvK A B k:=by
 have hp:0<2^j:=Nat.pow_pos (by omega);have e1:A*2^(k+j)/B/2^j=A*2^k/B:=by
  rw[Nat.div_div_eq_div_mul,Nat.pow_add,← Nat.mul_assoc,Nat.mul_div_mul_right _ _ hp]
 have e2:=ZkZ A B k j;have e3:dvK A B (k+j) % 2^(j+1)=0↔A*2^k % B=0:=by
  have d2:dvK A B (k+j)/2=A*2^(k+j)/B:=by unfold dvK;split<;>omega
  have m2:dvK A B (k+j) % 2=if A*2^(k+j) % B=0 then 0 else 1:=by unfold dvK;split<;>omega
  rw[Nat.pow_succ,Nat.mul_comm (2^j) 2,Nat.mod_mul,d2,m2];have e:A*2^(k+j) % B+B*(A*2^(k+j)/B % 2^j)=A*2^k % B*2^j:=by
   rw[← Nat.mod_mul,← ZkY,Nat.mul_assoc,← Nat.pow_add]
  constructor
  ·intro h;have h1:A*2^(k+j) % B=0:=by
    by_cases h0:A*2^(k+j) % B=0
    ·exact h0
    ·rw[if_neg h0] at h;omega
   have h2:A*2^(k+j)/B % 2^j=0:=by omega
   rw[h1,h2,Nat.mul_zero] at e;rcases Nat.mul_eq_zero.1 e.symm with h3 | h3
   ·exact h3
   ·omega
  ·intro h;rw[h,Nat.zero_mul] at e;have h1:A*2^(k+j) % B=0:=by omega
   rw[if_pos h1];rcases Nat.mul_eq_zero.1 (show B*(A*2^(k+j)/B % 2^j)=0 by omega) with h2 | h2
   ·rw[h2,Nat.div_zero,Nat.zero_mod]
   ·rw[h2]
 unfold stk;rw[e2];by_cases h:A*2^k % B=0
 ·rw[if_pos (e3.2 h)];unfold dvK;rw[if_pos h]
 ·rw[if_neg (fun h'=>h (e3.1 h'))];unfold dvK;rw[if_neg h]
theorem Zs1 {A B k:Nat}(hA:A≠0) (hB:B≠0) (h:B<9007199254740992) (hk:106≤k):54≤bitLen (A*2^k/B):=by
 refine Zhe (k:=53) ?_;rw[Nat.le_div_iff_mul_le (by omega)];have h1:2^106≤2^k:=Nat.pow_le_pow_right (by omega) hk;have h2:2^k≤A*2^k:=Nat.le_mul_of_pos_left _ (by omega);have h3:2^53*B≤2^53*2^53:=Nat.mul_le_mul_left _ (by omega);rw[← Nat.pow_add] at h3;exact Nat.le_trans h3 (Nat.le_trans h1 h2)
theorem Zla {m E:Int}{n:Bool}{A B k j:Nat}(hB:B≠0) (h:B<9007199254740992) (hk:106≤k):rnP m n (dvK A B k) (E+j)=rnP m n (dvK A B (k+j)) E∧rnF m n (dvK A B k) (E+j)=rnF m n (dvK A B (k+j)) E:=by
 have r:=ZfB (m:=m) (neg:=n) (A:=dvK A B (k+j)) (d:=j+1) (F:=E) (by
  by_cases hA:A=0
  ·left;subst hA;unfold dvK;simp
  ·right
   rw[ZkZ];exact Zs1 hA hB h hk)
 rw[Zs0,show E+((j+1:Nat):Int)-1=E+(j:Int) by omega] at r;exact r
def dvT (a b:Int):Nat:=dvK (sg a).toNat (sg b).toNat 128
def dvE (a b:Int):Int:=xp a-xp b-129
def dvP (m a b:Int):Int:=rnP m (prN a b) (dvT a b) (dvE a b)
def dvF (m a b:Int):Int:=rnF m (prN a b) (dvT a b) (dvE a b)
theorem Zwp {m a b:Int}(hb:sg b≠0):rnP m (prN a b) (dvK (sg a).toNat (sg b).toNat 120) (xp a-xp b-121)=dvP m a b∧rnF m (prN a b) (dvK (sg a).toNat (sg b).toNat 120) (xp a-xp b-121)=dvF m a b:=by
 have h:=ZbK b;have r:=Zla (m:=m) (E:=dvE a b) (n:=prN a b) (A:=(sg a).toNat) (B:=(sg b).toNat) (k:=120) (j:=8) (by omega) (by omega) (by omega);rw[show dvE a b+((8:Nat):Int)=xp a-xp b-121 by unfold dvE;omega] at r;exact r
end Go.Rn
namespace Go.Proofs.YtekebccjflilnaaGreat
open Go.Proofs.Tryz
open Go.IntKind
open Go.KRun Go.Wd Go.Pt Go.Rn
set_option maxRecDepth 100000
def Zcy:Con:=alt 72 (g1n (Za3 Zgd)) (alt 103 (g1n (Za3 Znp)) (alt 93 (g1 Zkd) (alt 104 (g2 (Zdo Zrg)) (alt 105 (g2 (Zdo Zrh)) (alt 88 (g2 Zz0) Zo)))))
theorem zD:ConOk Zcy:=Zy func72 rfl (zN Zbm) (Zy func103 rfl (zN Zdq) (Zy func93 rfl (Zr6 Zct) (Zy func104 rfl (Zbk Zft) (Zy func105 rfl (Zbk Zfu) (Zy func88 rfl Zri Zd)))))
def lL (x:W4) (d:Bool):Bool×Bool:=(decide (Zgh x≤128),d)
def lO (x:W4):Bool×Bool:=(decide x.ok,true)
theorem ft1 (n b:Bool) (x:W4) (ex:Int):Zw (Ze (Zi prog Zh Zcy true) 300 84 [vN n ex x b] [cmp false]) (.bool false) [lL x false,lO x]:=by and_intros<;>kernel_rfl
theorem ft2 (n:Bool) (x:W4) (ex:Int):Zw (Ze (Zi prog Zh Zcy true) 300 84 [vN n ex x true] [cmp true]) (.bool false) [lL x true,lO x]:=by and_intros<;>kernel_rfl
theorem ft3 (n:Bool) (x:W4) (ex:Int):Zw (Ze (Zi prog Zh Zcy true) 300 84 [vN n ex x false] [cmp true,cmp false]) (.bool false) [(decide (-100000≤ex),false),lL x true,lO x]:=by and_intros<;>kernel_rfl
theorem ft4 (n:Bool) (x:W4) (ex:Int):Zw (Ze (Zi prog Zh Zcy true) 300 84 [vN n ex x false] [cmp true,cmp true]) (.bool (decide (ex≤100000))) [(decide (-100000≤ex),true),lL x true,lO x]:=by and_intros<;>kernel_rfl
def Ziy (ex:Int) (x:W4) (b:Bool):Bool:=decide (Zgh x≤128) && !b && decide (-100000≤ex) && decide (ex≤100000)
theorem Zgx (n b:Bool) (x:W4) (ex:Int) (hx:x.ok) (w:World):Calls prog 84 #[vN n ex x b] w fun r w'=>r= .returned (.bool (Ziy ex x b))∧zg w w':=by
 have hv:([vN n ex x b].all (lt 0))=true:=rfl;have kx:decide x.ok=true:=Xa hx;unfold Ziy;by_cases hl:Zgh x≤128
 ·have kl:decide (Zgh x≤128)=true:=Xa hl;rw[kl];cases b with
  | true=>exact Zb (Zf zD) (ft2 n x ex) (Za kl (Zz kx)) hv (by rfl) w
  | false=>
   by_cases he: -100000≤ex
   ·have ke:decide (-100000≤ex)=true:=Xa he;rw[ke];exact Zb (Zf zD) (ft4 n x ex) (Za ke (Za kl (Zz kx))) hv (by rfl) w
   ·have ke:decide (-100000≤ex)=false:=Xb he;rw[ke];exact Zb (Zf zD) (ft3 n x ex) (Za ke (Za kl (Zz kx))) hv (by rfl) w
 ·have kl:decide (Zgh x≤128)=false:=Xb hl;rw[kl];exact Zb (Zf zD) (ft1 n b x ex) (Za kl (Zz kx)) hv (by rfl) w
def gFt:Ans:=fun vals s=>
 match vals with
 | [v]=>
  match n7 v with
  | some (_,ex,x,b)=>some (.bool (Ze6 (Ziy ex x b) s).1,(Ze6 (Ziy ex x b) s).2.1,(Ze6 (Ziy ex x b) s).2.2++[(decide x.ok,true)])
  | none=>none
 | _=>none
theorem Zwq:ZJ 84 gFt:=by
 intro vals s v s' lg h hl w;unfold gFt at h;split at h
 ·split at h
  ·rename_i n ex x b hn;cases h;rw[zw hn,Zhd (fun p hp=>hl p (List.mem_append_left _ hp))];exact Zgx n b x ex (Xc (hl _ (List.mem_append_right _ Xf))) w
  ·cases h
 ·cases h
theorem tp1 (n b:Bool) (x:W4) (ex:Int):Zw (Ze (Zi prog Zh Zcy true) 300 85 [vN n ex x b] [sam true]) (.int .i64 (-100000)) [(eqW x ⟨0,0,0,0⟩,true)]:=by and_intros<;>kernel_rfl
theorem tp2 (n b:Bool) (x:W4) (ex:Int):Zw (Ze (Zi prog Zh Zcy true) 300 85 [vN n ex x b] [sam false]) (.int .i64 (i64.wrap (ex+Zgh x))) [lO x,(eqW x ⟨0,0,0,0⟩,false)]:=by and_intros<;>kernel_rfl
def Zwr (x:W4) (ex:Int):Bool:=decide (x.ok∧ -200000≤ex∧ex≤200000)
theorem Zh1 {x:W4}(h:x.ok):x.nat=0↔eqW x ⟨0,0,0,0⟩=true:=by
 rw[Zbi];constructor
 ·intro h0;rw[← ZbV h,h0,ZbW]
 ·intro h0;rw[h0];rfl
theorem Zlb (n b:Bool) (x:W4) (ex:Int) (h:x.ok∧ -200000≤ex∧ex≤200000) (w:World):Calls prog 85 #[vN n ex x b] w fun r w'=>r= .returned (.int .i64 (ZcG ex x.nat))∧zg w w':=by
 have hv:([vN n ex x b].all (lt 0))=true:=rfl;unfold ZcG;cases he:eqW x ⟨0,0,0,0⟩ with
 | true=>
  rw[if_pos ((Zh1 h.1).2 he)];exact Zb (Zf zD) (tp1 n b x ex) (Zz he) hv (by rfl) w
 | false=>
  have hz:¬ x.nat=0:=fun h0=>by rw[(Zh1 h.1).1 h0] at he;cases he
  have hl:=Zkt h.1;have e:i64.wrap (ex+Zgh x)=ex+(bitLen x.nat:Nat):=by rw[ZcT,ZY ⟨by omega,by omega⟩]
  rw[if_neg hz,← e];exact Zb (Zf zD) (tp2 n b x ex) (Za (Xa h.1) (Zz he)) hv (by rfl) w
def gTp:Ans:=fun vals s=>
 match vals with
 | [v]=>
  match n7 v with
  | some (_,ex,x,_)=>some (.int .i64 (ZcG ex x.nat),s,[(Zwr x ex,true)])
  | none=>none
 | _=>none
theorem Zws:ZJ 85 gTp:=by
 intro vals s v s' lg h hl w;unfold gTp at h;split at h
 ·split at h
  ·rename_i n ex x b hn;cases h;rw[zw hn];exact Zlb n b x ex (Xc (hl _ Xf)) w
  ·cases h
 ·cases h
def lW' (x:W4) (n:Int):Bool×Bool:=(decide (x.ok∧ -9223372036854775808≤n∧n≤9223372036854775807),true)
theorem iu1 (n b:Bool) (x:W4) (ex u:Int):Zw (Ze (Zi prog Zh Zcy true) 300 86 [vN n ex x b,.int .i64 u] [cmp true]) (vN n u (Zac x (i64.wrap (ex-u))) false) [lW' x (i64.wrap (ex-u)),(decide (ex≥u),true)]:=by and_intros<;>kernel_rfl
theorem iu2 (n b:Bool) (x:W4) (ex u:Int):Zw (Ze (Zi prog Zh Zcy true) 300 86 [vN n ex x b,.int .i64 u] [cmp false]) (vN n u (Zfe x (i64.wrap (u-ex))) (Zfw x (i64.wrap (u-ex)))) [lW' x (i64.wrap (u-ex)),(decide (ex≥u),false)]:=by and_intros<;>kernel_rfl
def ZyV (x:W4) (ex u:Int):Bool:=decide (x.ok∧ -200000≤ex∧ex≤200000∧ -400000≤u∧u≤400000)
theorem Zob (n b:Bool) (x:W4) (ex u:Int) (h:x.ok∧ -200000≤ex∧ex≤200000∧ -400000≤u∧u≤400000) (w:World):Calls prog 86 #[vN n ex x b,.int .i64 u] w fun r w'=>r= .returned (vN n u (ofN (iuQ ex u x.nat)) (iuB ex u x.nat))∧zg w w':=by
 have hv:([vN n ex x b,.int .i64 u].all (lt 0))=true:=rfl;unfold iuQ iuB;by_cases hu:u≤ex
 ·rw[if_pos hu,if_pos hu];have e:i64.wrap (ex-u)=ex-u:=ZY ⟨by omega,by omega⟩;have hf:=iu1 n b x ex u;rw[e,ZcS h.1 (by omega)] at hf;exact Zb (Zf zD) hf (Za (Zec h.1 (by omega) (by omega)) (Zz (Xa hu))) hv (by rfl) w
 ·rw[if_neg hu,if_neg hu];have e:i64.wrap (u-ex)=u-ex:=ZY ⟨by omega,by omega⟩;have hf:=iu2 n b x ex u;rw[e,ZeD h.1 (by omega),Zhk h.1 (by omega)] at hf;exact Zb (Zf zD) hf (Za (Zec h.1 (by omega) (by omega)) (Zz (Xb hu))) hv (by rfl) w
def gIu:Ans:=fun vals s=>
 match vals with
 | [v,.int .i64 u]=>
  match n7 v with
  | some (n,ex,x,_)=>some (vN n u (ofN (iuQ ex u x.nat)) (iuB ex u x.nat),s,[(ZyV x ex u,true)])
  | none=>none
 | _=>none
theorem Zwt:ZJ 86 gIu:=by
 intro vals s v s' lg h hl w;unfold gIu at h;split at h
 ·split at h
  ·rename_i n ex x b hn;cases h;rw[zw hn];exact Zob n b x ex _ (Xc (hl _ Xf)) w
  ·cases h
 ·cases h
def Zwu (x y:W4):Bool×Bool:=(decide (x.ok∧y.ok),true)
theorem tg (n p a b:Bool) (x y:W4) (ex u:Int):Zw (Ze (Zi prog Zh Zcy true) 300 87 [vN n ex x a,vN p u y b] []) (vN n ex (W4.of (x.val+y.val)) (a || b)) [Zwu x y]:=by
 cases a<;>exact by and_intros<;>kernel_rfl
theorem Zs2 {x y:W4}(hx:x.ok) (hy:y.ok):W4.of (x.val+y.val)=ofN (x.nat+y.nat):=by
 unfold ofN;rw[W4.nat_val hx,W4.nat_val hy];congr 1
theorem Zlc {x y:W4}(hx:x.ok) (hy:y.ok) (h:y.nat≤x.nat):W4.of (x.val-y.val)=ofN (x.nat-y.nat):=by
 unfold ofN;rw[W4.nat_val hx,W4.nat_val hy];congr 1;omega
def gTg:Ans:=fun vals s=>
 match vals with
 | [v,t]=>
  match n7 v with
  | some (n,ex,x,a)=>
   match n7 t with
   | some (_,_,y,b)=>some (vN n ex (ofN (x.nat+y.nat)) (a || b),s,[(decide (x.ok∧y.ok),true)])
   | none=>none
  | none=>none
 | _=>none
theorem Zwv:ZJ 87 gTg:=by
 intro vals s v s' lg h hl w;unfold gTg at h;split at h
 ·split at h
  ·rename_i n ex x a hn;split at h
   ·rename_i p u y b hp;cases h;rw[zw hn,zw hp];obtain⟨hx,hy⟩:=Xc (hl _ Xf);rw[← Zs2 hx hy];exact Zb (Zf zD) (tg n p a b x y ex u) (Zz (Xa ⟨hx,hy⟩)) (by rfl) (by rfl) w
   ·cases h
  ·cases h
 ·cases h
theorem ap1 (n p a:Bool) (x y:W4) (ex u:Int):Zw (Ze (Zi prog Zh Zcy true) 300 89 [vN n ex x a,vN p u y false] []) (vN n ex (W4.of (x.val-y.val)) a) [Zwu x y]:=by and_intros<;>kernel_rfl
def sb4 (x y:W4):W4:=⟨(W4.of (x.val-y.val)).a,(W4.of (x.val-y.val)).b,(W4.of (x.val-y.val)).c,(W4.of (x.val-y.val)).d⟩
theorem Zld (x y:W4):sb4 x y=W4.of (x.val-y.val):=rfl
def apE (n p a:Bool) (x y:W4) (ex u:Int):Lf:=([.agg {toList:=[.bool n,.int .i64 ex,.int .u64 x.a,.int .u64 x.b,.int .u64 x.c,.int .u64 x.d,.bool a]},.agg {toList:=[.bool p,.int .i64 u,.int .u64 y.a,.int .u64 y.b,.int .u64 y.c,.int .u64 y.d,.bool true]},.pointer (some {block:=0,off:=0}),.pointer (some {block:=1,off:=0}),.pointer (some {block:=2,off:=0}),.tuple {toList:=[.agg {toList:=[.int .u64 (W4.of (x.val-y.val)).a,.int .u64 (W4.of (x.val-y.val)).b,.int .u64 (W4.of (x.val-y.val)).c,.int .u64 (W4.of (x.val-y.val)).d]},.bool (decide (x.val<y.val))]},.pointer (some {block:=0,off:=2}),.agg {toList:=[.int .u64 x.a,.int .u64 x.b,.int .u64 x.c,.int .u64 x.d]},.pointer (some {block:=1,off:=2}),.agg {toList:=[.int .u64 y.a,.int .u64 y.b,.int .u64 y.c,.int .u64 y.d]},.tuple {toList:=[.agg {toList:=[.int .u64 (W4.of (x.val-y.val)).a,.int .u64 (W4.of (x.val-y.val)).b,.int .u64 (W4.of (x.val-y.val)).c,.int .u64 (W4.of (x.val-y.val)).d]},.bool (decide (x.val<y.val))]},.agg {toList:=[.int .u64 (W4.of (x.val-y.val)).a,.int .u64 (W4.of (x.val-y.val)).b,.int .u64 (W4.of (x.val-y.val)).c,.int .u64 (W4.of (x.val-y.val)).d]},.bool (decide (x.val<y.val)),.pointer (some {block:=0,off:=2}),.pointer (some {block:=1,off:=6}),.bool true,.tuple {toList:=[.agg {toList:=[.int .u64 (W4.of ((sb4 x y).val-w1.val)).a,.int .u64 (W4.of ((sb4 x y).val-w1.val)).b,.int .u64 (W4.of ((sb4 x y).val-w1.val)).c,.int .u64 (W4.of ((sb4 x y).val-w1.val)).d]},.bool (decide ((sb4 x y).val<w1.val))]},.pointer (some {block:=0,off:=2}),.agg {toList:=[.int .u64 (W4.of (x.val-y.val)).a,.int .u64 (W4.of (x.val-y.val)).b,.int .u64 (W4.of (x.val-y.val)).c,.int .u64 (W4.of (x.val-y.val)).d]},.agg {toList:=[.int .u64 1,.int .u64 0,.int .u64 0,.int .u64 0]},.tuple {toList:=[.agg {toList:=[.int .u64 (W4.of ((sb4 x y).val-w1.val)).a,.int .u64 (W4.of ((sb4 x y).val-w1.val)).b,.int .u64 (W4.of ((sb4 x y).val-w1.val)).c,.int .u64 (W4.of ((sb4 x y).val-w1.val)).d]},.bool (decide ((sb4 x y).val<w1.val))]},.agg {toList:=[.int .u64 (W4.of ((sb4 x y).val-w1.val)).a,.int .u64 (W4.of ((sb4 x y).val-w1.val)).b,.int .u64 (W4.of ((sb4 x y).val-w1.val)).c,.int .u64 (W4.of ((sb4 x y).val-w1.val)).d]},.bool (decide ((sb4 x y).val<w1.val)),.pointer (some {block:=0,off:=2}),.tuple {toList:=[]},.tuple {toList:=[]}],{n:=3,l:=[([.bool false,.int .i64 0,.int .u64 0,.int .u64 0,.int .u64 0,.int .u64 0,.bool false],55),([.bool p,.int .i64 u,.int .u64 y.a,.int .u64 y.b,.int .u64 y.c,.int .u64 y.d,.bool true],55),([.bool n,.int .i64 ex,.int .u64 (W4.of ((sb4 x y).val-w1.val)).a,.int .u64 (W4.of ((sb4 x y).val-w1.val)).b,.int .u64 (W4.of ((sb4 x y).val-w1.val)).c,.int .u64 (W4.of ((sb4 x y).val-w1.val)).d,.bool a],55)]},[])
theorem ap2 (n p a:Bool) (x y:W4) (ex u:Int):Zw (Ze (Zi prog Zh Zcy true) 300 89 [vN n ex x a,vN p u y true] []) (vN n ex (W4.of ((sb4 x y).val-w1.val)) true) [Zwu (sb4 x y) w1,Zwu (sb4 x y) w1,Zwu x y]:=
 ⟨by kernel_rfl,by kernel_rfl,Eq.trans (b:=some [apE n p a x y ex u]) (by kernel_rfl) (by kernel_rfl),by kernel_rfl⟩
def apQ (p q:Nat) (b:Bool):Nat:=p-q-bN b
def gAp:Ans:=fun vals s=>
 match vals with
 | [v,t]=>
  match n7 v with
  | some (n,ex,x,a)=>
   match n7 t with
   | some (_,_,y,b)=>some (vN n ex (ofN (apQ x.nat y.nat b)) (a || b),s,[(decide (x.ok∧y.ok∧y.nat<x.nat),true)])
   | none=>none
  | none=>none
 | _=>none
theorem Zww:ZJ 89 gAp:=by
 intro vals s v s' lg h hl w;unfold gAp at h;split at h
 ·split at h
  ·rename_i n ex x a hn;split at h
   ·rename_i p u y b hp;cases h;rw[zw hn,zw hp];obtain⟨hx,hy,hlt⟩:=Xc (hl _ Xf);have hxl:=W4.nat_lt hx;have hw:w1.ok:=by decide
    have h1:w1.nat=1:=by decide
    have e1:=Zlc hx hy (by omega);have e2:(ofN (x.nat-y.nat)).nat=x.nat-y.nat:=zX (by omega);cases b with
    | false=>
     have e:ofN (apQ x.nat y.nat false)=W4.of (x.val-y.val):=by rw[e1];rfl
     rw[e,Bool.or_false];exact Zb (Zf zD) (ap1 n p a x y ex u) (Zz (Xa ⟨hx,hy⟩)) (by rfl) (by rfl) w
    | true=>
     have e:ofN (apQ x.nat y.nat true)=W4.of ((sb4 x y).val-w1.val):=by
      rw[Zld,e1,Zlc (ZZ _) hw (by omega),e2,h1];rfl
     rw[e,Bool.or_true];exact Zb (Zf zD) (ap2 n p a x y ex u) (Za (Xa ⟨by rw[Zld];exact W4.ok_of _,hw⟩) (Za (Xa ⟨by rw[Zld];exact W4.ok_of _,hw⟩) (Zz (Xa ⟨hx,hy⟩)))) (by rfl) (by rfl) w
   ·cases h
  ·cases h
 ·cases h
def ZeM:Con:=alt 84 gFt (alt 85 gTp (alt 86 gIu (alt 87 gTg (alt 89 gAp Zcy))))
theorem Za0:ConOk ZeM:=Zy func84 rfl Zwq (Zy func85 rfl Zws (Zy func86 rfl Zwt (Zy func87 rfl Zwv (Zy func89 rfl Zww zD))))
def uE (Ex:Int) (X:W4) (Ey:Int) (Y:W4):Int:=i64.wrap ((if ZcG Ey Y.nat>ZcG Ex X.nat then ZcG Ey Y.nat else ZcG Ex X.nat)-254)
def eX (Ex:Int) (X:W4) (Ey:Int) (Y:W4):W4:=ofN (iuQ Ex (uE Ex X Ey Y) X.nat)
def eY (Ex:Int) (X:W4) (Ey:Int) (Y:W4):W4:=ofN (iuQ Ey (uE Ex X Ey Y) Y.nat)
def xbX (Ex:Int) (X:W4) (Ey:Int) (Y:W4):Bool:=iuB Ex (uE Ex X Ey Y) X.nat
def xbY (Ex:Int) (X:W4) (Ey:Int) (Y:W4):Bool:=iuB Ey (uE Ex X Ey Y) Y.nat
def lIu (X:W4) (Ex u:Int):Bool×Bool:=(ZyV X Ex u,true)
def lEx (X Y:W4) (Ex Ey:Int):Log:=[lIu Y Ey (uE Ex X Ey Y),lIu X Ex (uE Ex X Ey Y),lIu Y Ey (uE Ex X Ey Y),lIu Y Ey (uE Ex X Ey Y),lIu X Ex (uE Ex X Ey Y),lIu Y Ey (uE Ex X Ey Y),lIu X Ex (uE Ex X Ey Y),lIu Y Ey (uE Ex X Ey Y),lIu Y Ey (uE Ex X Ey Y),lIu X Ex (uE Ex X Ey Y),lIu Y Ey (uE Ex X Ey Y),lIu Y Ey (uE Ex X Ey Y),lIu Y Ey (uE Ex X Ey Y),lIu Y Ey (uE Ex X Ey Y),lIu Y Ey (uE Ex X Ey Y),lIu X Ex (uE Ex X Ey Y),(Zwr Y Ey,true),(Zwr X Ex,true),(Ziy Ey Y false,true),(decide Y.ok,true),(Ziy Ex X false,true),(decide X.ok,true)]
theorem Zwx (X Y:W4) (Ex Ey m:Int):Zw (Ze (Zi prog Zh ZeM true) 300 49 [vN false Ex X false,vN false Ey Y false,.int .i64 m] [cmp true,cmp true]) (.tuple #[vN false (uE Ex X Ey Y) (ofN ((eX Ex X Ey Y).nat+(eY Ex X Ey Y).nat)) ((xbX Ex X Ey Y) || (xbY Ex X Ey Y)),.nilIface]) ((decide ((eX Ex X Ey Y).ok∧(eY Ex X Ey Y).ok),true)::lEx X Y Ex Ey):=by and_intros<;>kernel_rfl
theorem Zwy (X Y:W4) (Ex Ey m:Int):Zw (Ze (Zi prog Zh ZeM true) 300 49 [vN false Ex X false,vN true Ey Y false,.int .i64 m] [cmp true,cmp true,num 1]) (.tuple #[vN false (uE Ex X Ey Y) (ofN (apQ (eX Ex X Ey Y).nat (eY Ex X Ey Y).nat (xbY Ex X Ey Y))) ((xbX Ex X Ey Y) || (xbY Ex X Ey Y)),.nilIface]) ((decide ((eX Ex X Ey Y).ok∧(eY Ex X Ey Y).ok∧(eY Ex X Ey Y).nat<(eX Ex X Ey Y).nat),true)::(decide ((eX Ex X Ey Y).ok∧(eY Ex X Ey Y).ok),true)::(decide (Zdp (eX Ex X Ey Y) (eY Ex X Ey Y)=1),true)::lEx X Y Ex Ey):=by and_intros<;>kernel_rfl
theorem Zwz (X Y:W4) (Ex Ey m:Int):Zw (Ze (Zi prog Zh ZeM true) 300 49 [vN false Ex X false,vN true Ey Y false,.int .i64 m] [cmp true,cmp true,num (-1)]) (.tuple #[vN true (uE Ex X Ey Y) (ofN (apQ (eY Ex X Ey Y).nat (eX Ex X Ey Y).nat (xbX Ex X Ey Y))) ((xbY Ex X Ey Y) || (xbX Ex X Ey Y)),.nilIface]) ((decide ((eY Ex X Ey Y).ok∧(eX Ex X Ey Y).ok∧(eX Ex X Ey Y).nat<(eY Ex X Ey Y).nat),true)::(decide ((eX Ex X Ey Y).ok∧(eY Ex X Ey Y).ok),true)::(decide (Zdp (eX Ex X Ey Y) (eY Ex X Ey Y)= -1),true)::lEx X Y Ex Ey):=by and_intros<;>kernel_rfl
theorem Zw0 (X Y:W4) (Ex Ey m:Int):Zw (Ze (Zi prog Zh ZeM true) 300 49 [vN false Ex X false,vN true Ey Y false,.int .i64 m] [cmp true,cmp true,num 0]) (.tuple #[vN (m==4) (uE Ex X Ey Y) ⟨0,0,0,0⟩ false,.nilIface]) ((decide ((eX Ex X Ey Y).ok∧(eY Ex X Ey Y).ok),true)::(decide (Zdp (eX Ex X Ey Y) (eY Ex X Ey Y)=0),true)::lEx X Y Ex Ey):=by and_intros<;>kernel_rfl
theorem Zw1 (X Y:W4) (Ex Ey m:Int):Zw (Ze (Zi prog Zh ZeM true) 300 49 [vN true Ex X false,vN false Ey Y false,.int .i64 m] [cmp true,cmp true,num 1]) (.tuple #[vN true (uE Ex X Ey Y) (ofN (apQ (eX Ex X Ey Y).nat (eY Ex X Ey Y).nat (xbY Ex X Ey Y))) ((xbX Ex X Ey Y) || (xbY Ex X Ey Y)),.nilIface]) ((decide ((eX Ex X Ey Y).ok∧(eY Ex X Ey Y).ok∧(eY Ex X Ey Y).nat<(eX Ex X Ey Y).nat),true)::(decide ((eX Ex X Ey Y).ok∧(eY Ex X Ey Y).ok),true)::(decide (Zdp (eX Ex X Ey Y) (eY Ex X Ey Y)=1),true)::lEx X Y Ex Ey):=by and_intros<;>kernel_rfl
theorem Zw2 (X Y:W4) (Ex Ey m:Int):Zw (Ze (Zi prog Zh ZeM true) 300 49 [vN true Ex X false,vN false Ey Y false,.int .i64 m] [cmp true,cmp true,num (-1)]) (.tuple #[vN false (uE Ex X Ey Y) (ofN (apQ (eY Ex X Ey Y).nat (eX Ex X Ey Y).nat (xbX Ex X Ey Y))) ((xbY Ex X Ey Y) || (xbX Ex X Ey Y)),.nilIface]) ((decide ((eY Ex X Ey Y).ok∧(eX Ex X Ey Y).ok∧(eX Ex X Ey Y).nat<(eY Ex X Ey Y).nat),true)::(decide ((eX Ex X Ey Y).ok∧(eY Ex X Ey Y).ok),true)::(decide (Zdp (eX Ex X Ey Y) (eY Ex X Ey Y)= -1),true)::lEx X Y Ex Ey):=by and_intros<;>kernel_rfl
theorem Zw3 (X Y:W4) (Ex Ey m:Int):Zw (Ze (Zi prog Zh ZeM true) 300 49 [vN true Ex X false,vN false Ey Y false,.int .i64 m] [cmp true,cmp true,num 0]) (.tuple #[vN (m==4) (uE Ex X Ey Y) ⟨0,0,0,0⟩ false,.nilIface]) ((decide ((eX Ex X Ey Y).ok∧(eY Ex X Ey Y).ok),true)::(decide (Zdp (eX Ex X Ey Y) (eY Ex X Ey Y)=0),true)::lEx X Y Ex Ey):=by and_intros<;>kernel_rfl
theorem Zw4 (X Y:W4) (Ex Ey m:Int):Zw (Ze (Zi prog Zh ZeM true) 300 49 [vN true Ex X false,vN true Ey Y false,.int .i64 m] [cmp true,cmp true]) (.tuple #[vN true (uE Ex X Ey Y) (ofN ((eX Ex X Ey Y).nat+(eY Ex X Ey Y).nat)) ((xbX Ex X Ey Y) || (xbY Ex X Ey Y)),.nilIface]) ((decide ((eX Ex X Ey Y).ok∧(eY Ex X Ey Y).ok),true)::lEx X Y Ex Ey):=by and_intros<;>kernel_rfl
theorem Zcz {E:Int}{X:W4}(_h:X.ok):Ziy E X false=true↔May E X.nat:=by
 have hl:Zgh X≤128↔X.nat<2^128:=by
  rw[ZcT];constructor
  ·intro h1;exact Nat.lt_of_lt_of_le (bitLen_spec X.nat).1 (Nat.pow_le_pow_right (by omega) (by omega))
  ·intro h1;have:=ZaX h1;omega
 unfold Ziy May;simp only[Xh,Xi,Bool.not_false,and_true,hl];exact⟨fun ⟨⟨a,b⟩,c⟩=>⟨a,b,c⟩,fun ⟨a,b,c⟩=>⟨⟨a,b⟩,c⟩⟩
theorem Zh2 {E:Int}{X:Nat}(h:May E X): -100000≤ZcG E X∧ZcG E X≤100128:=by
 obtain⟨a,b,c⟩:=h;have:=ZaX a;unfold ZcG;split<;>omega
theorem Z0a {Ex Ey:Int}{X Y:Nat}(hX:May Ex X) (hY:May Ey Y): -100254≤unN Ex X Ey Y∧unN Ex X Ey Y≤100128:=by
 have h1:=Zh2 hX;have h2:=Zh2 hY;unfold unN;omega
theorem Z0b {Ex Ey:Int}{X Y:W4}(hX:May Ex X.nat) (hY:May Ey Y.nat):uE Ex X Ey Y=unN Ex X.nat Ey Y.nat:=by
 have h1:=Zh2 hX;have h2:=Zh2 hY;have e:(if ZcG Ey Y.nat>ZcG Ex X.nat then ZcG Ey Y.nat else ZcG Ex X.nat)=max (ZcG Ex X.nat) (ZcG Ey Y.nat):=by split<;>omega
 unfold uE unN;rw[e,ZY ⟨by omega,by omega⟩]
theorem Zs3 {x y:W4}(hx:x.ok) (hy:y.ok):(y.nat<x.nat→Zdp x y=1)∧(x.nat<y.nat→Zdp x y= -1)∧(x.nat=y.nat→Zdp x y=0):=by
 have e1:=W4.nat_val hx;have e2:=W4.nat_val hy;unfold Zdp;refine⟨fun h=> ?_,fun h=> ?_,fun h=> ?_⟩
 ·rw[if_neg (by omega),if_neg (by omega)]
 ·rw[if_pos (by omega)]
 ·rw[if_neg (by omega),if_pos (by omega)]
def xuV (m:Int) (nx:Bool) (Ex:Int) (X:W4) (ny:Bool) (Ey:Int) (Y:W4):Value:=vN (xuN m nx Ex X.nat ny Ey Y.nat) (unN Ex X.nat Ey Y.nat) (ofN (xuQ nx Ex X.nat ny Ey Y.nat)) (xuB nx Ex X.nat ny Ey Y.nat)
theorem Zgy (nx ny:Bool) (X Y:W4) (Ex Ey m:Int) (hX:X.ok) (hY:Y.ok) (mX:Ziy Ex X false=true) (mY:Ziy Ey Y false=true) (w:World):Calls prog 49 #[vN nx Ex X false,vN ny Ey Y false,.int .i64 m] w fun r w'=>r= .returned (.tuple #[xuV m nx Ex X ny Ey Y,.nilIface])∧zg w w':=by
 have dX:=(Zcz hX).1 mX;have dY:=(Zcz hY).1 mY;have eu:=Z0b dX dY;have hu:=Z0a dX dY;have kx:decide X.ok=true:=Xa hX;have ky:decide Y.ok=true:=Xa hY;have tx:Zwr X Ex=true:=Xa ⟨hX,by have:=dX.2;omega,by have:=dX.2;omega⟩;have ty:Zwr Y Ey=true:=Xa ⟨hY,by have:=dY.2;omega,by have:=dY.2;omega⟩;have ix:ZyV X Ex (uE Ex X Ey Y)=true:=Xa ⟨hX,by have:=dX.2;omega,by have:=dX.2;omega,by omega,by omega⟩;have iy:ZyV Y Ey (uE Ex X Ey Y)=true:=Xa ⟨hY,by have:=dY.2;omega,by have:=dY.2;omega,by omega,by omega⟩;have hlog:Zx (lEx X Y Ex Ey):=by simp only[lEx,lIu,Zea,Zka,kx,ky,tx,ty,ix,iy,mX,mY,and_self]
 have lx:=Zhp (Ex:=Ex) (Ey:=Ey) (X:=X.nat) (Y:=Y.nat);have ly:=Zhp (Ex:=Ey) (Ey:=Ex) (X:=Y.nat) (Y:=X.nat);rw[Zgr] at ly;have e256:(2:Nat)^256=4*2^254:=rfl;have ox:(eX Ex X Ey Y).ok:=ZZ _;have oy:(eY Ex X Ey Y).ok:=ZZ _;have nX:(eX Ex X Ey Y).nat=iuQ Ex (unN Ex X.nat Ey Y.nat) X.nat:=by unfold eX;rw[eu];exact zX (by omega)
 have nY:(eY Ex X Ey Y).nat=iuQ Ey (unN Ex X.nat Ey Y.nat) Y.nat:=by unfold eY;rw[eu];exact zX (by omega)
 have k2:decide ((eX Ex X Ey Y).ok∧(eY Ex X Ey Y).ok)=true:=Xa ⟨ox,oy⟩;have cbX:xbX Ex X Ey Y=iuB Ex (unN Ex X.nat Ey Y.nat) X.nat:=by unfold xbX;rw[eu]
 have cbY:xbY Ex X Ey Y=iuB Ey (unN Ex X.nat Ey Y.nat) Y.nat:=by unfold xbY;rw[eu]
 obtain⟨cg,cl',cz⟩:=Zs3 ox oy;have hv:∀ a b:Bool,([vN a Ex X false,vN b Ey Y false,.int .i64 m].all (lt 0))=true:=fun a b=>rfl;by_cases hn:nx=ny
 ·have ev:xuV m nx Ex X ny Ey Y=vN nx (uE Ex X Ey Y) (ofN ((eX Ex X Ey Y).nat+(eY Ex X Ey Y).nat)) ((xbX Ex X Ey Y) || (xbY Ex X Ey Y)):=by
   unfold xuV xuN xuQ xuB exN exQ exB;rw[if_pos hn,if_pos hn,if_pos hn,eu,nX,nY,cbX,cbY]
  rw[ev];subst hn;cases nx
  ·exact Zb (Zf Za0) (Zwx X Y Ex Ey m) (Za k2 hlog) (hv _ _) (by rfl) w
  ·exact Zb (Zf Za0) (Zw4 X Y Ex Ey m) (Za k2 hlog) (hv _ _) (by rfl) w
 ·rcases Nat.lt_trichotomy (eX Ex X Ey Y).nat (eY Ex X Ey Y).nat with h | h | h
  ·have ev:xuV m nx Ex X ny Ey Y=vN ny (uE Ex X Ey Y) (ofN (apQ (eY Ex X Ey Y).nat (eX Ex X Ey Y).nat (xbX Ex X Ey Y))) ((xbY Ex X Ey Y) || (xbX Ex X Ey Y)):=by
    rw[nX,nY] at h;unfold xuV xuN xuQ xuB exN exQ exB apQ;rw[if_neg hn,if_neg hn,if_neg hn,if_neg (Nat.lt_asymm h),if_pos h,if_neg (Nat.lt_asymm h),if_pos h,if_neg (Nat.lt_asymm h),if_pos h,eu,nX,nY,cbX,cbY]
   have k3:decide ((eY Ex X Ey Y).ok∧(eX Ex X Ey Y).ok∧(eX Ex X Ey Y).nat<(eY Ex X Ey Y).nat)=true:=Xa ⟨oy,ox,h⟩;have k4:decide (Zdp (eX Ex X Ey Y) (eY Ex X Ey Y)= -1)=true:=Xa (cl' h);rw[ev];cases nx<;>cases ny
   ·exact absurd rfl hn
   ·exact Zb (Zf Za0) (Zwz X Y Ex Ey m) (Za k3 (Za k2 (Za k4 hlog))) (hv _ _) (by rfl) w
   ·exact Zb (Zf Za0) (Zw2 X Y Ex Ey m) (Za k3 (Za k2 (Za k4 hlog))) (hv _ _) (by rfl) w
   ·exact absurd rfl hn
  ·have ev:xuV m nx Ex X ny Ey Y=vN (m==4) (uE Ex X Ey Y) ⟨0,0,0,0⟩ false:=by
    rw[nX,nY] at h;unfold xuV xuN xuQ xuB exN exQ exB;rw[if_neg hn,if_neg hn,if_neg hn,h,if_neg (Nat.lt_irrefl _),if_neg (Nat.lt_irrefl _),if_neg (Nat.lt_irrefl _),if_neg (Nat.lt_irrefl _),if_neg (Nat.lt_irrefl _),if_neg (Nat.lt_irrefl _),eu,ZbW];rfl
   have k4:decide (Zdp (eX Ex X Ey Y) (eY Ex X Ey Y)=0)=true:=Xa (cz h);rw[ev];cases nx<;>cases ny
   ·exact absurd rfl hn
   ·exact Zb (Zf Za0) (Zw0 X Y Ex Ey m) (Za k2 (Za k4 hlog)) (hv _ _) (by rfl) w
   ·exact Zb (Zf Za0) (Zw3 X Y Ex Ey m) (Za k2 (Za k4 hlog)) (hv _ _) (by rfl) w
   ·exact absurd rfl hn
  ·have ev:xuV m nx Ex X ny Ey Y=vN nx (uE Ex X Ey Y) (ofN (apQ (eX Ex X Ey Y).nat (eY Ex X Ey Y).nat (xbY Ex X Ey Y))) ((xbX Ex X Ey Y) || (xbY Ex X Ey Y)):=by
    rw[nX,nY] at h;unfold xuV xuN xuQ xuB exN exQ exB apQ;rw[if_neg hn,if_neg hn,if_neg hn,if_pos h,if_pos h,if_pos h,eu,nX,nY,cbX,cbY]
   have k3:decide ((eX Ex X Ey Y).ok∧(eY Ex X Ey Y).ok∧(eY Ex X Ey Y).nat<(eX Ex X Ey Y).nat)=true:=Xa ⟨ox,oy,h⟩;have k4:decide (Zdp (eX Ex X Ey Y) (eY Ex X Ey Y)=1)=true:=Xa (cg h);rw[ev];cases nx<;>cases ny
   ·exact absurd rfl hn
   ·exact Zb (Zf Za0) (Zwy X Y Ex Ey m) (Za k3 (Za k2 (Za k4 hlog))) (hv _ _) (by rfl) w
   ·exact Zb (Zf Za0) (Zw1 X Y Ex Ey m) (Za k3 (Za k2 (Za k4 hlog))) (hv _ _) (by rfl) w
   ·exact absurd rfl hn
def Zs4 (Ex:Int) (X:W4) (b:Bool) (Ey:Int) (Y:W4) (c:Bool):Bool:=decide (X.ok∧Y.ok∧b=false∧c=false∧Ziy Ex X false=true∧Ziy Ey Y false=true)
def gEx:Ans:=fun vals s=>
 match vals with
 | [v,t,.int .i64 m]=>
  match n7 v with
  | some (nx,Ex,X,b)=>
   match n7 t with
   | some (ny,Ey,Y,c)=>some (.tuple #[xuV m nx Ex X ny Ey Y,.nilIface],s,[(Zs4 Ex X b Ey Y c,true)])
   | none=>none
  | none=>none
 | _=>none
theorem Zw5:ZJ 49 gEx:=by
 intro vals s v s' lg h hl w;unfold gEx at h;split at h
 ·split at h
  ·rename_i nx Ex X b hn;split at h
   ·rename_i ny Ey Y c hp;cases h;rw[zw hn,zw hp];obtain⟨h1,h2,rfl,rfl,h5,h6⟩:=Xc (hl _ Xf);exact Zgy nx ny X Y Ex Ey _ h1 h2 h5 h6 w
   ·cases h
  ·cases h
 ·cases h
end Go.Proofs.YtekebccjflilnaaGreat
namespace Go.Proofs.YtekebccjflilnaaGreat
open Go.Proofs.Tryz
open Go.KRun Go.Wd Go.Pt Go.Rn
set_option maxRecDepth 100000
def Zc0:Con:=alt 49 gEx ZnJ
theorem zE:ConOk Zc0:=Zy func49 rfl Zw5 ZeJ
theorem Zw6 (a b m:Int):Zw (Ze (Zi prog Zh Zc0 true) 300 47 [.int .u64 a,.int .u64 b,.int .i64 m] [cmp true,cmp true,cmp true,cmp true,cmp true,cmp false]) (rdT 9221120237041090560 1) [lp2,(cl b==5,true),lU b,lp1,(cl a==5,true),lU a,(decide (cl a>3),true),lU a,lp0]:=by and_intros<;>kernel_rfl
theorem Zw7 (a b m:Int):Zw (Ze (Zi prog Zh Zc0 true) 300 47 [.int .u64 a,.int .u64 b,.int .i64 m] [cmp true,cmp true,cmp true,cmp true,cmp false,cmp false]) (rdT 9221120237041090560 1) [lp2,(cl b==5,false),lU b,lp1,(cl a==5,true),lU a,(decide (cl a>3),true),lU a,lp0]:=by and_intros<;>kernel_rfl
theorem Zw8 (a b m:Int):Zw (Ze (Zi prog Zh Zc0 true) 300 47 [.int .u64 a,.int .u64 b,.int .i64 m] [cmp true,cmp true,cmp false,cmp true,cmp true,cmp false]) (rdT 9221120237041090560 1) [lp2,(cl b==5,true),lU b,lp1,(cl a==5,false),lU a,(decide (cl a>3),true),lU a,lp0]:=by and_intros<;>kernel_rfl
theorem Zw9 (a b m:Int):Zw (Ze (Zi prog Zh Zc0 true) 300 47 [.int .u64 a,.int .u64 b,.int .i64 m] [cmp true,cmp true,cmp false,cmp true,cmp false,cmp false]) (rdT 9221120237041090560 0) [lp2,(cl b==5,false),lU b,lp1,(cl a==5,false),lU a,(decide (cl a>3),true),lU a,lp0]:=by and_intros<;>kernel_rfl
theorem Z0c (a b m:Int):Zw (Ze (Zi prog Zh Zc0 true) 300 47 [.int .u64 a,.int .u64 b,.int .i64 m] [cmp true,cmp false,cmp false,cmp true,cmp true,cmp true,cmp false]) (rdT 9221120237041090560 1) [lp2,(cl b==5,true),lU b,(decide (cl b>3),true),lU b,lp1,(cl a==5,false),lU a,(decide (cl a>3),false),lU a,lp0]:=by and_intros<;>kernel_rfl
theorem Z0d (a b m:Int):Zw (Ze (Zi prog Zh Zc0 true) 300 47 [.int .u64 a,.int .u64 b,.int .i64 m] [cmp true,cmp false,cmp false,cmp true,cmp true,cmp false,cmp false]) (rdT 9221120237041090560 0) [lp2,(cl b==5,false),lU b,(decide (cl b>3),true),lU b,lp1,(cl a==5,false),lU a,(decide (cl a>3),false),lU a,lp0]:=by and_intros<;>kernel_rfl
theorem Z0e (a b m:Int):Zw (Ze (Zi prog Zh Zc0 true) 300 47 [.int .u64 a,.int .u64 b,.int .i64 m] [cmp true,cmp false,cmp false,cmp true,cmp false,cmp false,cmp false,cmp true,cmp true,cmp true]) (rdT 9221120237041090560 1) [(a !=b,true),(cl b==3,true),lU b,(cl a==3,true),lU a,lp2,(cl b==5,false),lU b,(decide (cl b>3),false),lU b,lp1,(cl a==5,false),lU a,(decide (cl a>3),false),lU a,lp0]:=by and_intros<;>kernel_rfl
theorem Z0f (a b m:Int):Zw (Ze (Zi prog Zh Zc0 true) 300 47 [.int .u64 a,.int .u64 b,.int .i64 m] [cmp true,cmp false,cmp false,cmp true,cmp false,cmp false,cmp false,cmp true,cmp true,cmp false,cmp true]) (rdT a 0) [(cl a==3,true),lU a,(a !=b,false),(cl b==3,true),lU b,(cl a==3,true),lU a,lp2,(cl b==5,false),lU b,(decide (cl b>3),false),lU b,lp1,(cl a==5,false),lU a,(decide (cl a>3),false),lU a,lp0]:=by and_intros<;>kernel_rfl
theorem Z0g (a b m:Int):Zw (Ze (Zi prog Zh Zc0 true) 300 47 [.int .u64 a,.int .u64 b,.int .i64 m] [cmp true,cmp false,cmp false,cmp true,cmp false,cmp false,cmp false,cmp true,cmp false,cmp true]) (rdT a 0) [(cl a==3,true),lU a,(cl b==3,false),lU b,(cl a==3,true),lU a,lp2,(cl b==5,false),lU b,(decide (cl b>3),false),lU b,lp1,(cl a==5,false),lU a,(decide (cl a>3),false),lU a,lp0]:=by and_intros<;>kernel_rfl
theorem Z0h (a b m:Int):Zw (Ze (Zi prog Zh Zc0 true) 300 47 [.int .u64 a,.int .u64 b,.int .i64 m] [cmp true,cmp false,cmp false,cmp true,cmp false,cmp false,cmp false,cmp false,cmp false,cmp true]) (rdT b 0) [(cl b==3,true),lU b,(cl a==3,false),lU a,(cl a==3,false),lU a,lp2,(cl b==5,false),lU b,(decide (cl b>3),false),lU b,lp1,(cl a==5,false),lU a,(decide (cl a>3),false),lU a,lp0]:=by and_intros<;>kernel_rfl
theorem ZwA (a b m:Int):Zw (Ze (Zi prog Zh Zc0 true) 300 47 [.int .u64 a,.int .u64 b,.int .i64 m] [cmp true,cmp false,cmp false,cmp true,cmp false,cmp false,cmp false,cmp false,cmp false,cmp false,cmp true,cmp true]) (rdV m (xuN m (sgn a) (xp a) (wSg a).nat (sgn b) (xp b) (wSg b).nat) (tw (ofN (xuQ (sgn a) (xp a) (wSg a).nat (sgn b) (xp b) (wSg b).nat)) (xuB (sgn a) (xp a) (wSg a).nat (sgn b) (xp b) (wSg b).nat)) (clp (unN (xp a) (wSg a).nat (xp b) (wSg b).nat)-1)) [(decide (ofN (xuQ (sgn a) (xp a) (wSg a).nat (sgn b) (xp b) (wSg b).nat)).ok,true),(Zs4 (xp a) (wSg a) false (xp b) (wSg b) false,true),lU b,(decide (cl b≤2),true),lU b,lU a,(decide (cl a≤2),true),lU a,(cl b==3,false),lU b,(cl a==3,false),lU a,(cl a==3,false),lU a,lp2,(cl b==5,false),lU b,(decide (cl b>3),false),lU b,lp1,(cl a==5,false),lU a,(decide (cl a>3),false),lU a,lp0]:=by and_intros<;>kernel_rfl
theorem ZwB (k m:Int) {G Ex Ey:Int}{X Y:Nat}(hX:May Ex X) (hY:May Ey Y) (hx:G≤Ex) (hy:G≤Ey) (nx ny:Bool):
  rdV k (xuN m nx Ex X ny Ey Y) (tw (ofN (xuQ nx Ex X ny Ey Y)) (xuB nx Ex X ny Ey Y)) (clp (unN Ex X Ey Y)-1)=rdV k (sgS m nx ny (smI G nx Ex X ny Ey Y)) (smI G nx Ex X ny Ey Y).natAbs G:=by
 have hq:=Zv8 nx Ex X ny Ey Y;have e:(2:Nat)^256=2*2^255:=rfl;obtain⟨c1,c2⟩:=Zd2 k (xuN m nx Ex X ny Ey Y) (ZZ (xuQ nx Ex X ny Ey Y)) (xuB nx Ex X ny Ey Y) (unN Ex X Ey Y);obtain⟨p,q,r⟩:=ZnH hX hY hx hy k m (xuN m nx Ex X ny Ey Y) nx ny;unfold rdV;rw[c1,c2,Zsb (by omega),p,q,r]
def suP (m a b:Int):Int:=if 3<cl a∨3<cl b then 9221120237041090560 else if cl a=3 then (if cl b=3∧a≠b then 9221120237041090560 else a) else if cl b=3 then b else sS (adN m a b) (adP m a b)
def suF (m a b:Int):Int:=if 3<cl a∨3<cl b then (if cl a=5∨cl b=5 then 1 else 0) else if cl a=3 then (if cl b=3∧a≠b then 1 else 0) else if cl b=3 then 0 else adF m a b
def suV (m a b:Int):Value:=rdT (suP m a b) (suF m a b)
theorem Ziz (a b m:Int) (ha:U a) (hb:U b) (w:World):Calls prog 47 #[.int .u64 a,.int .u64 b,.int .i64 m] w fun r w'=>r= .returned (suV m a b)∧zg w w':=by
 have hv:([.int .u64 a,.int .u64 b,.int .i64 m].all (lt 0))=true:=rfl;have ka:decide (U a)=true:=Xa ha;have kb:decide (U b)=true:=Xa hb;have k0:lp0.1=lp0.2:=by decide
 have k1:lp1.1=lp1.2:=by decide
 have k2:lp2.1=lp2.2:=by decide
 have ba:=Zdx a;have bb:=Zdx b;unfold suV suP suF;by_cases hna:3<cl a
 ·have g1:decide (cl a>3)=true:=Xa hna;rw[if_pos (.inl hna),if_pos (.inl hna)];have mk:∀ {d e:Bool},(cl a==5)=d→(cl b==5)=e→Zx [lp2,(cl b==5,e),lU b,lp1,(cl a==5,d),lU a,(decide (cl a>3),true),lU a,lp0]:=fun h1 h2=>
   Za k2 (Za h2 (Za kb (Za k1 (Za h1 (Za ka (Za g1 (Za ka (Zz k0))))))))
  by_cases ca:cl a=5<;>by_cases cb:cl b=5
  ·rw[if_pos (.inl ca)];exact Zb (Zf zE) (Zw6 a b m) (mk (Z1 ca) (Z1 cb)) hv (by rfl) w
  ·rw[if_pos (.inl ca)];exact Zb (Zf zE) (Zw7 a b m) (mk (Z1 ca) (Zq cb)) hv (by rfl) w
  ·rw[if_pos (.inr cb)];exact Zb (Zf zE) (Zw8 a b m) (mk (Zq ca) (Z1 cb)) hv (by rfl) w
  ·rw[if_neg (by omega)];exact Zb (Zf zE) (Zw9 a b m) (mk (Zq ca) (Zq cb)) hv (by rfl) w
 ·have g1:decide (cl a>3)=false:=Xb hna;have ca:(cl a==5)=false:=Zq (by omega);by_cases hnb:3<cl b
  ·have g2:decide (cl b>3)=true:=Xa hnb;rw[if_pos (.inr hnb),if_pos (.inr hnb)];by_cases cb:cl b=5
   ·rw[if_pos (.inr cb)];exact Zb (Zf zE) (Z0c a b m) (Za k2 (Za (Z1 cb) (Za kb (Za g2 (Za kb (Za k1 (Za ca (Za ka (Za g1 (Za ka (Zz k0))))))))))) hv (by rfl) w
   ·rw[if_neg (by omega)];exact Zb (Zf zE) (Z0d a b m) (Za k2 (Za (Zq cb) (Za kb (Za g2 (Za kb (Za k1 (Za ca (Za ka (Za g1 (Za ka (Zz k0))))))))))) hv (by rfl) w
  ·have g2:decide (cl b>3)=false:=Xb hnb;have cb:(cl b==5)=false:=Zq (by omega);have lN:Zx [lp2,(cl b==5,false),lU b,(decide (cl b>3),false),lU b,lp1,(cl a==5,false),lU a,(decide (cl a>3),false),lU a,lp0]:=
    Za k2 (Za cb (Za kb (Za g2 (Za kb (Za k1 (Za ca (Za ka (Za g1 (Za ka (Zz k0))))))))))
   have hno:¬ (3<cl a∨3<cl b):=by omega
   rw[if_neg hno,if_neg hno];by_cases ea:cl a=3
   ·rw[if_pos ea,if_pos ea];by_cases eb:cl b=3
    ·by_cases hab:a=b
     ·rw[if_neg (fun h=>h.2 hab),if_neg (fun h=>h.2 hab)];exact Zb (Zf zE) (Z0f a b m) (Za (Z1 ea) (Za ka (Za (ZrT hab) (Za (Z1 eb) (Za kb (Za (Z1 ea) (Za ka lN))))))) hv (by rfl) w
     ·rw[if_pos ⟨eb,hab⟩,if_pos ⟨eb,hab⟩];exact Zb (Zf zE) (Z0e a b m) (Za (ZrS hab) (Za (Z1 eb) (Za kb (Za (Z1 ea) (Za ka lN))))) hv (by rfl) w
    ·rw[if_neg (fun h=>eb h.1),if_neg (fun h=>eb h.1)];exact Zb (Zf zE) (Z0g a b m) (Za (Z1 ea) (Za ka (Za (Zq eb) (Za kb (Za (Z1 ea) (Za ka lN)))))) hv (by rfl) w
   ·rw[if_neg ea,if_neg ea];by_cases eb:cl b=3
    ·rw[if_pos eb,if_pos eb];exact Zb (Zf zE) (Z0h a b m) (Za (Z1 eb) (Za kb (Za (Zq ea) (Za ka (Za (Zq ea) (Za ka lN)))))) hv (by rfl) w
    ·rw[if_neg eb,if_neg eb];have mA:May (xp a) (wSg a).nat:=by rw[ZaT];exact ZeI a
     have mB:May (xp b) (wSg b).nat:=by rw[ZaT];exact ZeI b
     have kE:Zs4 (xp a) (wSg a) false (xp b) (wSg b) false=true:=Xa ⟨ZaC a,ZaC b,rfl,rfl,(Zcz (ZaC a)).2 mA,(Zcz (ZaC b)).2 mB⟩;have fa:decide (cl a≤2)=true:=Xa (by omega);have fb:decide (cl b≤2)=true:=Xa (by omega);have hf:=ZwA a b m;rw[ZwB m m mA mB (ZbJ a).1 (ZbJ b).1,ZaT,ZaT] at hf;exact Zb (Zf zE) hf (Za (Xa (ZZ _)) (Za kE (Za kb (Za fb (Za kb (Za ka (Za fa (Za ka (Za (Zq eb) (Za kb (Za (Zq ea) (Za ka (Za (Zq ea) (Za ka lN)))))))))))))) hv (by rfl) w
def gSA:Ans:=fun vals s=>
 match vals with
 | [.int .u64 a,.int .u64 b,.int .i64 m]=>some (suV m a b,s,[(decide (U a∧U b),true)])
 | _=>none
theorem ZwC:ZJ 47 gSA:=by
 intro vals s v s' lg h hl w;unfold gSA at h;split at h
 ·cases h;obtain⟨h1,h2⟩:=Xc (hl _ Xf);exact Ziz _ _ _ h1 h2 w
 ·cases h
end Go.Proofs.YtekebccjflilnaaGreat
namespace Go.Proofs.YtekebccjflilnaaGreat
open Go.KRun Go.Wd Go.Pt Go.Rn
set_option maxRecDepth 100000
def nzW (x:W4):Bool:= !(x.a==0 && (x.b==0 && (x.c==0 && (x.d==0 && true))))
theorem ZwD {n:Int}(h0:0≤n) (h1:n<115792089237316195423570985008687907853269984665640564039457584007913129639936):nzW (W4.of n)=decide (n≠0):=by
 have ev:(W4.of n).val=n:=by rw[W4.val_of,Int.emod_eq_of_lt h0 h1]
 have ok:=W4.ok_of n;by_cases hz:n=0
 ·subst hz;rfl
 ·rw[Xa hz];unfold nzW;cases hc:((W4.of n).a==0 && ((W4.of n).b==0 && ((W4.of n).c==0 && ((W4.of n).d==0 && true))))
  ·rfl
  ·exfalso
   simp only[Xh,beq_iff_eq] at hc;obtain⟨e1,e2,e3,e4,_⟩:=hc;apply hz;rw[← ev];unfold W4.val;rw[e1,e2,e3,e4];rfl
theorem ZeN (p:Int):(wSg p).val=sg p:=by
 have h:=ZbK p;rw[W4.nat_val (ZaC p),ZaT];omega
theorem Zs5 {u:Nat}(h:u≤199):(2:Int)^u≤803469022129495137770981046170581301261101496891396417650688:=by
 have h1:(2:Nat)^u≤2^199:=Nat.pow_le_pow_right (by omega) h;have h2:(2:Nat)^199=803469022129495137770981046170581301261101496891396417650688:=rfl;rw[h2] at h1;have:=ZaQ u;omega
theorem ZwE (p:Int) {u:Nat}(h0:1≤u) (h:u≤199):(Zac (wSg p) (u:Int)).ok∧(Zac (wSg p) (u:Int)).val=(((sg p).toNat*2^u:Nat):Int):=by
 have hs:=ZbK p;have hp:=Zs5 h;have hq:(0:Int)<2^u:=by rw[ZaQ];exact_mod_cast Nat.pow_pos (by omega)
 have e:(wSg p).val*2^u=(((sg p).toNat*2^u:Nat):Int):=by
  rw[ZeN,Int.natCast_mul,← ZaQ,Int.toNat_of_nonneg hs.1]
 have hb:(((sg p).toNat*2^u:Nat):Int)<115792089237316195423570985008687907853269984665640564039457584007913129639936:=by
  rw[← e,ZeN];have:=Int.mul_le_mul (show sg p≤9007199254740991 by omega) hp (by omega) (by omega);omega
 unfold Zac;rw[if_neg (by omega),if_neg (by omega),Xg,e];exact⟨W4.ok_of _,by rw[W4.val_of,Int.emod_eq_of_lt (by omega) hb]⟩
theorem ZeO {p:Int}(h:cl p≤2):sg p=0↔cl p=0:=by
 have h3:=Zgk p;unfold sg cl at*;split at h
 ·rename_i h1;rw[if_pos h1];split<;>omega
 ·rename_i h1;split at h
  ·split at h
   ·omega
   ·split at h<;>omega
  ·rename_i h2;rw[if_neg h1,if_neg h2];omega
end Go.Proofs.YtekebccjflilnaaGreat
