/-
  ConD1, ConD2, ConD3, ConQ1, ConQ2, ConQ3, ConQ7, ConQ4, ConQ5, ConQ6, ConQ8, ConQ9, ConQA, ConQB, ConQC, QuA
-/
import Derived.Test.YtekebccjflilnaaGreatG16
namespace Go.Proofs.YtekebccjflilnaaGreat
open Go.Proofs.Tryz
open Go.IntKind
open Go.KRun Go.Wd
set_option maxRecDepth 100000
def lz0 (y:Int):Bool×Bool:=(decide (9223372036854775808≤y∧y<18446744073709551616),true)
theorem ZtV (y:Int):Zw (Ze (Zi prog Zh Zr4 true) 3000 114 [u_ y] []) (.int .i64 (i64.wrap (64-(bitLen y.toNat:Nat)))) [wd y]:=by and_intros<;>kernel_rfl
theorem Zpo (y:Int) (h0:9223372036854775808≤y) (h1:y<18446744073709551616) (w:World):Calls prog 114 #[u_ y] w fun e w'=>e= .returned (.int .i64 0)∧zg w w':=by
 have h:=Zb (Zf Zcs) (ZtV y) (Zz (Zke ⟨by omega,h1⟩)) (by rfl) (by rfl) w;have e:bitLen y.toNat=64:=by
  have e1:y.toNat/2^63=1:=by omega
  rw[bitLen_shift y.toNat 63 (by omega),e1];rfl
 rw[e] at h;exact h
def gLZ:Ans:=fun vals s=>
 match vals with
 | [.int .u64 y]=>some (.int .i64 0,s,[lz0 y])
 | _=>none
theorem ZxZ:ZJ 114 gLZ:=by
 intro vals s v s' lg h hl w;unfold gLZ at h;split at h
 ·cases h;have h1:=hl _ Xf;simp only[lz0,Xi] at h1;exact Zpo _ h1.1 h1.2 w
 ·cases h
def ZhO:Con:=alt 114 gLZ Zo
theorem Za5:ConOk ZhO:=Zy func114 rfl ZxZ Zd
def dN (F:Func):Nat→Code
 | 0=>Zv F
 | n+1=>Z5 (dN F n)
def Z28 (F:Func):List Code:=(List.range 14).map fun i=>ZB (dN F i)
def dL1 (F:Func):Code:=cIn (cIn (ZB (dN F 14)))
def Z29 (F:Func):List Code:=[ZB (dN F 15),ZB (dN F 16),ZB (dN F 17)]
def dL2 (F:Func):Code:=cIn (cIn (ZB (dN F 18)))
def Z2A (F:Func):Code:=dN F 19
theorem Zpp:f113.body=some (Zaz (Z28 f113) (.seq (.block 0 (.loop (dL1 f113))) (Zaz (Z29 f113) (.seq (.block 2 (.loop (dL2 f113))) (Z2A f113))))):=by kernel_rfl
def s0 (z:Int):Int:=u64.wrap (z*2^min ((u64.wrap 0).toNat) 64)
def s64 (z:Int):Int:=z.fdiv (2^min ((u64.wrap (64-u64.wrap 0)).toNat) 64)
def orq (x y:Int):Int:=u64.wrap ((BitVec.ofInt 64 x ||| BitVec.ofInt 64 y).toNat:Nat)
def dFr (hi lo y v3 v4 v5 v6 v7:Value) (s yn1 yn0 un32 un10 un1 un0 q1 rh:Value) (v17 v18:Value):List Value:=[hi,lo,y,v3,v4,v5,v6,v7,s,yn1,yn0,un32,un10,un1,un0,q1,rh,v17,v18]
def zf0:Bool×Bool:=(decide ((0:Int)<0),false)
def oE (hi lo:Int):Int:=orq (s0 hi) (s64 lo)
def rEW (n q d:Int):Int:=u64.wrap (n-u64.wrap (q*d))
theorem ZtW (hi lo y q:Int):GoesE (evL (Zi prog Zh ZhO true) 500 (Z28 f113) ([u_ hi,u_ lo,u_ y]++List.replicate 132 undef,⟨0,[]⟩,[cmp false,cmp false,cmp false,num q]) ⟨[],[],[]⟩) 19 116 none
  (dFr (u_ hi) (u_ lo) (u_ (s0 y)) undef undef undef (u_ 0) (u_ 0) (u_ 0) (u_ (Zhs (s0 y))) (u_ (ZnL (s0 y))) (u_ (oE hi lo)) (u_ (s0 lo)) (u_ (Zhs (s0 lo))) (u_ (ZnL (s0 lo))) (u_ q) (u_ (rEW (oE hi lo) q (Zhs (s0 y)))) undef undef) ⟨0,[]⟩
  [(decide (Zhs (s0 y)=0),false),(decide (u64.wrap ((oE hi lo).tdiv (Zhs (s0 y)))=q),true),l32,l32,l32,l32,l32,l32,lz0 y,(hi==0,false),(decide (y≤hi),false),(y==0,false)]:=by unfold GoesE;kernel_rfl
def Zu8 (q n0 rh u:Int) (d:Bool):Bool×Bool:=(decide (u64.wrap (q*n0)>u64.wrap (u64.wrap (4294967296*rh)+u)),d)
def gM (q:Int) (d:Bool):Bool×Bool:=(decide (q≥4294967296),d)
def exO (d:Bool) (id:Nat):Ex:=match d with | true=>some (some id) | false=>none
theorem Zya (d:Bool) (a0 a1 a2 a3 a4 a5 a6 a7 a8 a11 a12 a14 a17 a18:Value) (n1 n0 u q rh:Int) (g:Nat→Value):GoesE (evC (Zi prog Zh ZhO true) 300 false (dL1 f113) (dFr a0 a1 a2 a3 a4 a5 a6 a7 a8 (u_ n1) (u_ n0) a11 a12 (u_ u) a14 (u_ q) (u_ rh) a17 a18++tl 116 g,⟨0,[]⟩,[cmp true,cmp d]) ⟨[],[],[]⟩) 19 116 (exO d 0)
  (dFr a0 a1 a2 a3 a4 a5 a6 a7 a8 (u_ n1) (u_ n0) a11 a12 (u_ u) a14 (u_ (u64.wrap (q-1))) (u_ (u64.wrap (rh+n1))) a17 a18) ⟨0,[]⟩ [gM (u64.wrap (rh+n1)) d,gM q true]:=by cases d<;>(unfold GoesE;kernel_rfl)
theorem ZtX (d:Bool) (a0 a1 a2 a3 a4 a5 a6 a7 a8 a11 a12 a14 a17 a18:Value) (n1 n0 u q rh:Int) (g:Nat→Value):GoesE (evC (Zi prog Zh ZhO true) 300 false (dL1 f113) (dFr a0 a1 a2 a3 a4 a5 a6 a7 a8 (u_ n1) (u_ n0) a11 a12 (u_ u) a14 (u_ q) (u_ rh) a17 a18++tl 116 g,⟨0,[]⟩,[cmp false,cmp true,cmp d]) ⟨[],[],[]⟩) 19 116 (exO d 0)
  (dFr a0 a1 a2 a3 a4 a5 a6 a7 a8 (u_ n1) (u_ n0) a11 a12 (u_ u) a14 (u_ (u64.wrap (q-1))) (u_ (u64.wrap (rh+n1))) a17 a18) ⟨0,[]⟩ [gM (u64.wrap (rh+n1)) d,Zu8 q n0 rh u true,gM q false]:=by cases d<;>(unfold GoesE;kernel_rfl)
theorem Zyb (a0 a1 a2 a3 a4 a5 a6 a7 a8 a11 a12 a14 a17 a18:Value) (n1 n0 u q rh:Int) (g:Nat→Value):GoesE (evC (Zi prog Zh ZhO true) 300 false (dL1 f113) (dFr a0 a1 a2 a3 a4 a5 a6 a7 a8 (u_ n1) (u_ n0) a11 a12 (u_ u) a14 (u_ q) (u_ rh) a17 a18++tl 116 g,⟨0,[]⟩,[cmp false,cmp false]) ⟨[],[],[]⟩) 19 116 (some (some 0))
  (dFr a0 a1 a2 a3 a4 a5 a6 a7 a8 (u_ n1) (u_ n0) a11 a12 (u_ u) a14 (u_ q) (u_ rh) a17 a18) ⟨0,[]⟩ [Zu8 q n0 rh u false,gM q false]:=by unfold GoesE;kernel_rfl
theorem Zyc (d:Bool) (a0 a1 a2 a3 a4 a5 a6 a7 a8 a11 a12 a14 a17 a18:Value) (n1 n0 u q rh:Int) (g:Nat→Value):GoesE (evC (Zi prog Zh ZhO true) 300 false (dL2 f113) (dFr a0 a1 a2 a3 a4 a5 a6 a7 a8 (u_ n1) (u_ n0) a11 a12 a14 (u_ u) a17 (u_ rh) a18 (u_ q)++tl 116 g,⟨0,[]⟩,[cmp true,cmp d]) ⟨[],[],[]⟩) 19 116 (exO d 2)
  (dFr a0 a1 a2 a3 a4 a5 a6 a7 a8 (u_ n1) (u_ n0) a11 a12 a14 (u_ u) a17 (u_ (u64.wrap (rh+n1))) a18 (u_ (u64.wrap (q-1)))) ⟨0,[]⟩ [gM (u64.wrap (rh+n1)) d,gM q true]:=by cases d<;>(unfold GoesE;kernel_rfl)
theorem ZtY (d:Bool) (a0 a1 a2 a3 a4 a5 a6 a7 a8 a11 a12 a14 a17 a18:Value) (n1 n0 u q rh:Int) (g:Nat→Value):GoesE (evC (Zi prog Zh ZhO true) 300 false (dL2 f113) (dFr a0 a1 a2 a3 a4 a5 a6 a7 a8 (u_ n1) (u_ n0) a11 a12 a14 (u_ u) a17 (u_ rh) a18 (u_ q)++tl 116 g,⟨0,[]⟩,[cmp false,cmp true,cmp d]) ⟨[],[],[]⟩) 19 116 (exO d 2)
  (dFr a0 a1 a2 a3 a4 a5 a6 a7 a8 (u_ n1) (u_ n0) a11 a12 a14 (u_ u) a17 (u_ (u64.wrap (rh+n1))) a18 (u_ (u64.wrap (q-1)))) ⟨0,[]⟩ [gM (u64.wrap (rh+n1)) d,Zu8 q n0 rh u true,gM q false]:=by cases d<;>(unfold GoesE;kernel_rfl)
theorem Zyd (a0 a1 a2 a3 a4 a5 a6 a7 a8 a11 a12 a14 a17 a18:Value) (n1 n0 u q rh:Int) (g:Nat→Value):GoesE (evC (Zi prog Zh ZhO true) 300 false (dL2 f113) (dFr a0 a1 a2 a3 a4 a5 a6 a7 a8 (u_ n1) (u_ n0) a11 a12 a14 (u_ u) a17 (u_ rh) a18 (u_ q)++tl 116 g,⟨0,[]⟩,[cmp false,cmp false]) ⟨[],[],[]⟩) 19 116 (some (some 2))
  (dFr a0 a1 a2 a3 a4 a5 a6 a7 a8 (u_ n1) (u_ n0) a11 a12 a14 (u_ u) a17 (u_ rh) a18 (u_ q)) ⟨0,[]⟩ [Zu8 q n0 rh u false,gM q false]:=by unfold GoesE;kernel_rfl
def mE (n u q y:Int):Int:=u64.wrap (u64.wrap (u64.wrap (n*4294967296)+u)-u64.wrap (q*y))
theorem ZtZ (a0 a1 a3 a4 a5 a6 a7 a8 a10 a12 a14 a16 a17 a18:Value) (y n1 n u q p:Int) (g:Nat→Value):GoesE (evL (Zi prog Zh ZhO true) 300 (Z29 f113) (dFr a0 a1 (u_ y) a3 a4 a5 a6 a7 a8 (u_ n1) a10 (u_ n) a12 (u_ u) a14 (u_ q) a16 a17 a18++tl 116 g,⟨0,[]⟩,[num p]) ⟨[],[],[]⟩) 19 116 none
  (dFr a0 a1 (u_ y) a3 a4 a5 a6 a7 a8 (u_ n1) a10 (u_ n) a12 (u_ u) a14 (u_ q) (u_ (rEW (mE n u q y) p n1)) (u_ (mE n u q y)) (u_ p)) ⟨0,[]⟩ [(decide (n1=0),false),(decide (u64.wrap ((mE n u q y).tdiv n1)=p),true)]:=by unfold GoesE;kernel_rfl
theorem Zua (a0 a1 a3 a4 a5 a6 a7 a9 a10 a11 a12 a13 a16:Value) (y u q m p:Int) (g:Nat→Value):GoesE (evC (Zi prog Zh ZhO true) 300 false (Z2A f113) (dFr a0 a1 (u_ y) a3 a4 a5 a6 a7 (u_ 0) a9 a10 a11 a12 a13 (u_ u) (u_ q) a16 (u_ m) (u_ p)++tl 116 g,⟨0,[]⟩,[]) ⟨[],[],[]⟩) 19 116 (some none)
  (dFr a0 a1 (u_ y) a3 a4 a5 (u_ (u64.wrap (u64.wrap (q*4294967296)+p))) (u_ ((mE m u p y).fdiv (2^min ((0:Int).toNat) 64))) (u_ 0) a9 a10 a11 a12 a13 (u_ u) (u_ q) a16 (u_ m) (u_ p)) ⟨0,[]⟩ [zf0]:=by unfold GoesE;kernel_rfl
theorem div_zero (lo y:Int):Zw (Ze (Zi prog Zh ZhO true) 500 113 [u_ 0,u_ lo,u_ y] [cmp false,cmp false,cmp true,num (lo/y),cmp true]) (.tuple #[u_ (lo/y),u_ (lo.tmod y)])
  [(decide (y=0),false),(decide (y=0),false),(decide (u64.wrap (lo.tdiv y)=lo/y),true),((0:Int)==0,true),(decide (y≤0),false),(y==0,false)]:=by and_intros<;>kernel_rfl
theorem Zq4 {M n1 n0 n u q rh:Int}(hD:0<n1*M+n0) (e:n=q*n1+rh) (h:q*n0>M*rh+u):(n*M+u)/(n1*M+n0)<q:=by
 refine Int.ediv_lt_of_lt_mul hD ?_;rw[e,Int.add_mul,Int.mul_add,Int.mul_assoc,Int.mul_comm rh M];omega
theorem Zq5 {M n1 n0 n u q rh:Int}(hD:0<n1*M+n0) (e:n=q*n1+rh) (h:q*n0≤M*rh+u):q≤(n*M+u)/(n1*M+n0):=by
 refine Int.le_ediv_of_mul_le hD ?_;rw[e,Int.add_mul,Int.mul_add,Int.mul_assoc,Int.mul_comm rh M];omega
structure Dig (n1 n0 n u q rh:Int):Prop where
 hn1:2147483648≤n1∧n1<4294967296
 hn0:0≤n0∧n0<4294967296
 hn:0≤n∧n<n1*4294967296+n0
 hu:0≤u∧u<4294967296
 hrh:0≤rh∧rh<4294967296
 he:n=q*n1+rh
 hq:(n*4294967296+u)/(n1*4294967296+n0)≤q
def dgt (n1 n0 n u:Int):Int:=(n*4294967296+u)/(n1*4294967296+n0)
theorem Dig.range {n1 n0 n u q rh:Int}(D:Dig n1 n0 n u q rh):0<n1*4294967296+n0∧0≤dgt n1 n0 n u∧dgt n1 n0 n u<4294967296∧dgt n1 n0 n u≤q∧q<18446744073709551616:=by
 obtain⟨a,b,c,d,e,f,g⟩:=D;have hD:0<n1*4294967296+n0:=by omega
 have h0:0≤dgt n1 n0 n u:=Int.ediv_nonneg (by omega) (by omega);refine⟨hD,h0,Int.ediv_lt_of_lt_mul hD (by omega),g,?_⟩;have h1:q*1≤q*n1:=Int.mul_le_mul_of_nonneg_left (by omega) (Int.le_trans h0 g);omega
theorem Dig.big {n1 n0 n u q rh:Int}(D:Dig n1 n0 n u q rh) (h:q≥4294967296):dgt n1 n0 n u<q:=by have:=D.range;omega
theorem Dig.mul {n1 n0 n u q rh:Int}(D:Dig n1 n0 n u q rh) (h:¬ q≥4294967296):0≤q*n0∧q*n0<18446744073709551616:=by
 have r:=D.range;have b0:=D.hn0;refine⟨Int.mul_nonneg (by omega) b0.1,?_⟩;have:=Int.mul_le_mul (show q≤4294967295 by omega) (show n0≤4294967295 by omega) b0.1 (by omega);omega
theorem Dig.too {n1 n0 n u q rh:Int}(D:Dig n1 n0 n u q rh) (h:¬ q≥4294967296) (d:Bool):(Zu8 q n0 rh u d).1=decide (q*n0>4294967296*rh+u):=by
 have m:=D.mul h;have r:=D.hrh;have v:=D.hu;unfold Zu8;simp only[ZK];rw[Int.emod_eq_of_lt m.1 m.2,Int.emod_eq_of_lt (a:=4294967296*rh) (by omega) (by omega),Int.emod_eq_of_lt (by omega) (by omega)]
theorem Dig.next {n1 n0 n u q rh:Int}(D:Dig n1 n0 n u q rh) (h:dgt n1 n0 n u<q):u64.wrap (q-1)=q-1∧u64.wrap (rh+n1)=rh+n1∧n=(q-1)*n1+(rh+n1)∧dgt n1 n0 n u≤q-1:=by
 have r:=D.range;have a:=D.hn1;have b:=D.hrh;refine⟨by rw[ZK];omega,by rw[ZK];omega,?_,by omega⟩;rw[Int.sub_mul,Int.one_mul];have:=D.he;omega
theorem Dig.stop {n1 n0 n u q rh:Int}(D:Dig n1 n0 n u q rh) (h:dgt n1 n0 n u<q) (hb:rh+n1≥4294967296):q-1=dgt n1 n0 n u:=by
 obtain⟨_,_,e,l⟩:=D.next h;have r:=D.range;have a:=D.hn1;have b:=D.hn0;have c:=D.hn;have lt:q-1<4294967296:=by
  refine Int.lt_of_mul_lt_mul_right (a:=n1) ?_ (by omega);rw[Int.mul_comm 4294967296 n1];generalize (q-1)*n1=t at*;omega
 have m:(q-1)*n0≤4294967295*4294967295:=Int.mul_le_mul (by omega) (by omega) b.1 (by omega);have:=Zq5 (q:=q-1) (rh:=rh+n1) (u:=u) r.1 e (by have:=D.hu;omega);unfold dgt at*;omega
theorem Dig.done {n1 n0 n u q rh:Int}(D:Dig n1 n0 n u q rh) (h:¬ q*n0>4294967296*rh+u):q=dgt n1 n0 n u:=by
 have r:=D.range;have:=Zq5 (u:=u) r.1 D.he (by omega);unfold dgt at*;omega
theorem Zpq (q:Int):(gM q (decide (q≥4294967296))).1=(gM q (decide (q≥4294967296))).2:=rfl
theorem Z2B {q:Int}(h:q≥4294967296):(gM q true).1=(gM q true).2:=Xa h
theorem Zza {q:Int}(h:¬ q≥4294967296):(gM q false).1=(gM q false).2:=Xb h
theorem Zub (a0 a1 a2 a3 a4 a5 a6 a7 a8 a11 a12 a14 a17 a18:Value) (n1 n0 n u q rh:Int) (D:Dig n1 n0 n u q rh) (g:Nat→Value) (s:List Dec):
  Runs (Zi prog Zh ZhO true) (.block 0 (.loop (dL1 f113))) (dFr a0 a1 a2 a3 a4 a5 a6 a7 a8 (u_ n1) (u_ n0) a11 a12 (u_ u) a14 (u_ q) (u_ rh) a17 a18++tl 116 g,⟨0,[]⟩,s) fun e y=>match e with
   | none=>(∃ rh g,y.1=dFr a0 a1 a2 a3 a4 a5 a6 a7 a8 (u_ n1) (u_ n0) a11 a12 (u_ u) a14 (u_ (dgt n1 n0 n u)) (u_ rh) a17 a18++tl 116 g)∧y.2.1=⟨0,[]⟩
   | some none=>False
   | some (some _)=>False:=by
 refine Runs.forLoop (n:=(q-dgt n1 n0 n u).toNat) (R:=fun _=>False) (P:=fun y=>(∃ rh g,y.1=dFr a0 a1 a2 a3 a4 a5 a6 a7 a8 (u_ n1) (u_ n0) a11 a12 (u_ u) a14 (u_ (dgt n1 n0 n u)) (u_ rh) a17 a18++tl 116 g)∧y.2.1=⟨0,[]⟩)
  (fun r y=>∃ (q rh:Int) (g:Nat→Value),Dig n1 n0 n u q rh∧(r:Int)=q-dgt n1 n0 n u∧y.1=dFr a0 a1 a2 a3 a4 a5 a6 a7 a8 (u_ n1) (u_ n0) a11 a12 (u_ u) a14 (u_ q) (u_ rh) a17 a18++tl 116 g∧y.2.1=⟨0,[]⟩) ?_
  ⟨q,rh,g,D,by have:=D.range;omega,rfl,rfl⟩
 clear D g s q rh;rintro r ⟨t,h',s'⟩ ⟨q,rh,g,D,hr,ht,hh⟩;simp only at ht hh;subst ht hh;have step:∀ (d:Bool) (y:Lf),d=decide (u64.wrap (rh+n1)≥4294967296)→dgt n1 n0 n u<q→∀ e,e=exO d 0→(∃ g,y.1=dFr a0 a1 a2 a3 a4 a5 a6 a7 a8 (u_ n1) (u_ n0) a11 a12 (u_ u) a14 (u_ (u64.wrap (q-1))) (u_ (u64.wrap (rh+n1))) a17 a18++tl 116 g)→y.2.1=⟨0,[]⟩→
   match e with
   | none=>∃ n',n'<r∧∃ (q rh:Int) (g:Nat→Value),Dig n1 n0 n u q rh∧(n':Int)=q-dgt n1 n0 n u∧y.1=dFr a0 a1 a2 a3 a4 a5 a6 a7 a8 (u_ n1) (u_ n0) a11 a12 (u_ u) a14 (u_ q) (u_ rh) a17 a18++tl 116 g∧y.2.1=⟨0,[]⟩
   | some none=>False
   | some (some id')=>id'=0∧(∃ rh g,y.1=dFr a0 a1 a2 a3 a4 a5 a6 a7 a8 (u_ n1) (u_ n0) a11 a12 (u_ u) a14 (u_ (dgt n1 n0 n u)) (u_ rh) a17 a18++tl 116 g)∧y.2.1=⟨0,[]⟩:=by
  rintro d y hd hq e rfl ⟨g',hy⟩ hh;obtain⟨w1,w2,w3,w4⟩:=D.next hq;rw[w1,w2] at hy;rw[w2] at hd;by_cases hb:rh+n1≥4294967296
  ·rw[Xa hb] at hd;subst hd;exact⟨rfl,⟨rh+n1,g',by rw[hy,D.stop hq hb]⟩,hh⟩
  ·rw[Xb hb] at hd;subst hd;have a:=D.hn1;have b:=D.hrh;exact⟨(q-1-dgt n1 n0 n u).toNat,by omega,q-1,rh+n1,g',⟨D.hn1,D.hn0,D.hn,D.hu,⟨by omega,by omega⟩,w3,w4⟩,by omega,hy,hh⟩
 by_cases hb:q≥4294967296
 ·refine (Zj (Zf Za5) (Zya (decide (u64.wrap (rh+n1)≥4294967296)) a0 a1 a2 a3 a4 a5 a6 a7 a8 a11 a12 a14 a17 a18 n1 n0 u q rh g).t (Za (Zpq _) (Zz (Z2B hb)))).mono fun e y he=> ?_;exact step _ y rfl (D.big hb) e he.1 he.2.1 he.2.2
 ·by_cases hc:q*n0>4294967296*rh+u
  ·refine (Zj (Zf Za5) (ZtX (decide (u64.wrap (rh+n1)≥4294967296)) a0 a1 a2 a3 a4 a5 a6 a7 a8 a11 a12 a14 a17 a18 n1 n0 u q rh g).t (Za (Zpq _) (Za ((D.too hb true).trans (Xa hc)) (Zz (Zza hb))))).mono fun e y he=> ?_;exact step _ y rfl (Zq4 D.range.1 D.he hc) e he.1 he.2.1 he.2.2
  ·refine (Zj (Zf Za5) (Zyb a0 a1 a2 a3 a4 a5 a6 a7 a8 a11 a12 a14 a17 a18 n1 n0 u q rh g).t (Za ((D.too hb false).trans (Xb hc)) (Zz (Zza hb)))).mono fun e y he=> ?_;obtain⟨rfl,⟨g',h2⟩,h3⟩:=he;have e1:=D.done hc;exact⟨rfl,⟨rh,g',by rw[h2,← e1]⟩,h3⟩
theorem Zuc (a0 a1 a2 a3 a4 a5 a6 a7 a8 a11 a12 a14 a17 a18:Value) (n1 n0 n u q rh:Int) (D:Dig n1 n0 n u q rh) (g:Nat→Value) (s:List Dec):
  Runs (Zi prog Zh ZhO true) (.block 2 (.loop (dL2 f113))) (dFr a0 a1 a2 a3 a4 a5 a6 a7 a8 (u_ n1) (u_ n0) a11 a12 a14 (u_ u) a17 (u_ rh) a18 (u_ q)++tl 116 g,⟨0,[]⟩,s) fun e y=>match e with
   | none=>(∃ rh g,y.1=dFr a0 a1 a2 a3 a4 a5 a6 a7 a8 (u_ n1) (u_ n0) a11 a12 a14 (u_ u) a17 (u_ rh) a18 (u_ (dgt n1 n0 n u))++tl 116 g)∧y.2.1=⟨0,[]⟩
   | some none=>False
   | some (some _)=>False:=by
 refine Runs.forLoop (n:=(q-dgt n1 n0 n u).toNat) (R:=fun _=>False) (P:=fun y=>(∃ rh g,y.1=dFr a0 a1 a2 a3 a4 a5 a6 a7 a8 (u_ n1) (u_ n0) a11 a12 a14 (u_ u) a17 (u_ rh) a18 (u_ (dgt n1 n0 n u))++tl 116 g)∧y.2.1=⟨0,[]⟩)
  (fun r y=>∃ (q rh:Int) (g:Nat→Value),Dig n1 n0 n u q rh∧(r:Int)=q-dgt n1 n0 n u∧y.1=dFr a0 a1 a2 a3 a4 a5 a6 a7 a8 (u_ n1) (u_ n0) a11 a12 a14 (u_ u) a17 (u_ rh) a18 (u_ q)++tl 116 g∧y.2.1=⟨0,[]⟩) ?_
  ⟨q,rh,g,D,by have:=D.range;omega,rfl,rfl⟩
 clear D g s q rh;rintro r ⟨t,h',s'⟩ ⟨q,rh,g,D,hr,ht,hh⟩;simp only at ht hh;subst ht hh;have step:∀ (d:Bool) (y:Lf),d=decide (u64.wrap (rh+n1)≥4294967296)→dgt n1 n0 n u<q→∀ e,e=exO d 2→(∃ g,y.1=dFr a0 a1 a2 a3 a4 a5 a6 a7 a8 (u_ n1) (u_ n0) a11 a12 a14 (u_ u) a17 (u_ (u64.wrap (rh+n1))) a18 (u_ (u64.wrap (q-1)))++tl 116 g)→y.2.1=⟨0,[]⟩→
   match e with
   | none=>∃ n',n'<r∧∃ (q rh:Int) (g:Nat→Value),Dig n1 n0 n u q rh∧(n':Int)=q-dgt n1 n0 n u∧y.1=dFr a0 a1 a2 a3 a4 a5 a6 a7 a8 (u_ n1) (u_ n0) a11 a12 a14 (u_ u) a17 (u_ rh) a18 (u_ q)++tl 116 g∧y.2.1=⟨0,[]⟩
   | some none=>False
   | some (some id')=>id'=2∧(∃ rh g,y.1=dFr a0 a1 a2 a3 a4 a5 a6 a7 a8 (u_ n1) (u_ n0) a11 a12 a14 (u_ u) a17 (u_ rh) a18 (u_ (dgt n1 n0 n u))++tl 116 g)∧y.2.1=⟨0,[]⟩:=by
  rintro d y hd hq e rfl ⟨g',hy⟩ hh;obtain⟨w1,w2,w3,w4⟩:=D.next hq;rw[w1,w2] at hy;rw[w2] at hd;by_cases hb:rh+n1≥4294967296
  ·rw[Xa hb] at hd;subst hd;exact⟨rfl,⟨rh+n1,g',by rw[hy,D.stop hq hb]⟩,hh⟩
  ·rw[Xb hb] at hd;subst hd;have a:=D.hn1;have b:=D.hrh;exact⟨(q-1-dgt n1 n0 n u).toNat,by omega,q-1,rh+n1,g',⟨D.hn1,D.hn0,D.hn,D.hu,⟨by omega,by omega⟩,w3,w4⟩,by omega,hy,hh⟩
 by_cases hb:q≥4294967296
 ·refine (Zj (Zf Za5) (Zyc (decide (u64.wrap (rh+n1)≥4294967296)) a0 a1 a2 a3 a4 a5 a6 a7 a8 a11 a12 a14 a17 a18 n1 n0 u q rh g).t (Za (Zpq _) (Zz (Z2B hb)))).mono fun e y he=> ?_;exact step _ y rfl (D.big hb) e he.1 he.2.1 he.2.2
 ·by_cases hc:q*n0>4294967296*rh+u
  ·refine (Zj (Zf Za5) (ZtY (decide (u64.wrap (rh+n1)≥4294967296)) a0 a1 a2 a3 a4 a5 a6 a7 a8 a11 a12 a14 a17 a18 n1 n0 u q rh g).t (Za (Zpq _) (Za ((D.too hb true).trans (Xa hc)) (Zz (Zza hb))))).mono fun e y he=> ?_;exact step _ y rfl (Zq4 D.range.1 D.he hc) e he.1 he.2.1 he.2.2
  ·refine (Zj (Zf Za5) (Zyd a0 a1 a2 a3 a4 a5 a6 a7 a8 a11 a12 a14 a17 a18 n1 n0 u q rh g).t (Za ((D.too hb false).trans (Xb hc)) (Zz (Zza hb)))).mono fun e y he=> ?_;obtain⟨rfl,⟨g',h2⟩,h3⟩:=he;have e1:=D.done hc;exact⟨rfl,⟨rh,g',by rw[h2,← e1]⟩,h3⟩
theorem Zud {z:Int}(h:zd z):s0 z=z:=by
 unfold s0;rw[show (2:Int)^min ((u64.wrap 0).toNat) 64=1 from rfl,Int.mul_one];exact ZN h.1 h.2
theorem Zye {z:Int}(h:zd z):s64 z=0:=by
 unfold s64;rw[show (2:Int)^min ((u64.wrap (64-u64.wrap 0)).toNat) 64=18446744073709551616 from rfl,Int.fdiv_eq_ediv_of_nonneg _ (by omega)];exact Int.ediv_eq_zero_of_lt h.1 h.2
theorem Z1R {hi lo:Int}(h:zd hi) (hl:zd lo):oE hi lo=hi:=by
 unfold oE orq;rw[Zud h,Zye hl,show BitVec.ofInt 64 0=0#64 from rfl,BitVec.or_zero];have e1:(BitVec.ofInt 64 hi).toNat=hi.toNat:=by
  rw[BitVec.toNat_ofInt];unfold zd at h;omega
 rw[e1,ZK];unfold zd at h;omega
theorem Z1S {n d:Int}(h:0≤n∧n<18446744073709551616) (hd:0<d):rEW n (n/d) d=n % d∧n=n/d*d+n % d∧0≤n % d∧n % d<d:=by
 have e:=Int.mul_ediv_add_emod n d;have m1:=Int.emod_nonneg n (show d≠0 by omega);have m2:=Int.emod_lt_of_pos n hd;rw[Int.mul_comm] at e;have m3:0≤n/d*d:=Int.mul_nonneg (Int.ediv_nonneg h.1 (by omega)) (by omega);refine⟨?_,by omega,m1,m2⟩;unfold rEW;rw[ZK,ZK];generalize n/d*d=t at*;omega
theorem Zyf {n u q y:Int}(h0:0≤n*4294967296+u-q*y) (h1:n*4294967296+u-q*y<18446744073709551616):mE n u q y=n*4294967296+u-q*y:=by
 unfold mE;simp only[ZK];generalize q*y=t at*;omega
theorem ZhP (n1 n0 n u:Int) (hD:0<n1*4294967296+n0):0≤n*4294967296+u-dgt n1 n0 n u*(n1*4294967296+n0)∧n*4294967296+u-dgt n1 n0 n u*(n1*4294967296+n0)<n1*4294967296+n0:=by
 unfold dgt;have e:=Int.mul_ediv_add_emod (n*4294967296+u) (n1*4294967296+n0);have m1:=Int.emod_nonneg (n*4294967296+u) (show n1*4294967296+n0≠0 by omega);have m2:=Int.emod_lt_of_pos (n*4294967296+u) hD;rw[Int.mul_comm] at e;generalize (n*4294967296+u)/(n1*4294967296+n0)*(n1*4294967296+n0)=t at*;omega
theorem ZfP {n1 n0 n u:Int}(h1:2147483648≤n1∧n1<4294967296) (h0:0≤n0∧n0<4294967296) (hn:0≤n∧n<n1*4294967296+n0) (hu:0≤u∧u<4294967296):Dig n1 n0 n u (n/n1) (rEW n (n/n1) n1):=by
 obtain⟨e1,e2,e3,e4⟩:=Z1S (n:=n) (d:=n1) ⟨hn.1,by omega⟩ (by omega);refine⟨h1,h0,hn,hu,by rw[e1];omega,by rw[e1];exact e2,?_⟩;exact (ZfO (B:=4294967296) (by omega) (by omega) h0.1 hu.2 (Int.ediv_nonneg (by omega) (by omega)) (by omega)).1
theorem Zue {n n1:Int}(hn:0≤n∧n<18446744073709551616) (h1:2147483648≤n1):(decide (u64.wrap (n.tdiv n1)=n/n1),true).1=(decide (u64.wrap (n.tdiv n1)=n/n1),true).2:=by
 refine Xa ?_;have a:0≤n/n1:=Int.ediv_nonneg hn.1 (by omega);have b:n/n1≤n:=Int.ediv_le_self _ hn.1;rw[Int.tdiv_eq_ediv_of_nonneg hn.1,ZN a (by omega)]
def Zzb (hi lo y:Int):Value:= .tuple #[u_ ((hi*18446744073709551616+lo)/y),u_ ((hi*18446744073709551616+lo) % y)]
theorem Zmu (hi lo y:Int) (hh:zd hi) (hl:zd lo) (hy:9223372036854775808≤y∧y<18446744073709551616) (hlt:hi<y) (w:World):Calls prog 113 #[u_ hi,u_ lo,u_ y] w fun e w'=>e= .returned (Zzb hi lo y)∧zg w w':=by
 unfold zd at hh hl;by_cases hz:hi=0
 ·subst hz;have h:=Zb (Zf Za5) (div_zero lo y) (Za (Xb (by omega:¬ y=0)) (Za (Xb (by omega:¬ y=0)) (Za (Zue hl (by omega)) (Za (by rfl) (Za (Xb (by omega:¬ y≤0)) (Zz (beq_eq_false_iff_ne.2 (by omega:y≠0)))))))) (by rfl) (by rfl) w;unfold Zzb;rw[Int.zero_mul,Int.zero_add];rw[Int.tmod_eq_emod_of_nonneg hl.1] at h;exact h
 ·have wy:zd y:=⟨by omega,hy.2⟩;have ey:=Int.mul_ediv_add_emod y 4294967296;have el:=Int.mul_ediv_add_emod lo 4294967296;have b1:2147483648≤y/4294967296∧y/4294967296<4294967296:=by omega
  have b0:0≤y % 4294967296∧y % 4294967296<4294967296:=by omega
  have c1:0≤lo/4294967296∧lo/4294967296<4294967296:=by omega
  have c0:0≤lo % 4294967296∧lo % 4294967296<4294967296:=by omega
  have pre:=ZtW hi lo y (hi/(y/4294967296));rw[Zud wy,Zud hl,Z1R hh hl,Zgv,Zgv,Zd3 wy.1 wy.2,Zd3 hl.1 hl.2] at pre;have ey':y=y/4294967296*4294967296+y % 4294967296:=by omega
  generalize y/4294967296=n1 at*;generalize y % 4294967296=n0 at*;generalize lo/4294967296=u1 at*;generalize lo % 4294967296=u0 at*;have D1:=ZfP (n:=hi) b1 b0 (by omega) c1;have rg1:=D1.range;have rs1:=ZhP n1 n0 hi u1 (by omega);have em:mE hi u1 (dgt n1 n0 hi u1) y=hi*4294967296+u1-dgt n1 n0 hi u1*y:=Zyf (by rw[ey'];omega) (by rw[ey'];omega);have rm:0≤mE hi u1 (dgt n1 n0 hi u1) y∧mE hi u1 (dgt n1 n0 hi u1) y<n1*4294967296+n0:=by rw[em,ey'];exact rs1
  generalize hq1:dgt n1 n0 hi u1=q1 at*;generalize hm:mE hi u1 q1 y=m at*;have D2:=ZfP (n:=m) b1 b0 rm c0;have rg2:=D2.range;have rs2:=ZhP n1 n0 m u0 (by omega);have ee:mE m u0 (dgt n1 n0 m u0) y=m*4294967296+u0-dgt n1 n0 m u0*y:=Zyf (by rw[ey'];omega) (by rw[ey'];omega);refine ZaU (T:=(Zi prog Zh ZhO true)) func113 Zpp (vals:=[u_ hi,u_ lo,u_ y]) (by rfl) (by rfl) (zl (Zf Za5) pre.t
   (Za (Xb (by omega:¬ n1=0)) (Za (Zue hh b1.1) (Za Zbp (Za Zbp (Za Zbp (Za Zbp (Za Zbp (Za Zbp (Za (Xa hy) (Za (beq_eq_false_iff_ne.2 hz) (Za (Xb (by omega:¬ y≤hi)) (Zz (beq_eq_false_iff_ne.2 (by omega:y≠0))))))))))))))
   fun g=> ?_) w
  refine Runs.seq (P1:=fun e z=>e=none∧(∃ rh g,z.1=dFr (u_ hi) (u_ lo) (u_ y) undef undef undef (u_ 0) (u_ 0) (u_ 0) (u_ n1) (u_ n0) (u_ hi) (u_ lo) (u_ u1) (u_ u0) (u_ q1) (u_ rh) undef undef++tl 116 g)∧z.2.1=⟨0,[]⟩) ?_ ?_ (fun e z he=>by cases he.1)
  ·refine (Zub (u_ hi) (u_ lo) (u_ y) undef undef undef (u_ 0) (u_ 0) (u_ 0) (u_ hi) (u_ lo) (u_ u0) undef undef n1 n0 hi u1 _ _ D1 g []).mono fun e z he=> ?_;rw[hq1] at he
   match e,he with
   | none,he=>exact⟨rfl,he⟩
  rintro⟨t,h',s⟩ ⟨_,⟨rh,g1,ht⟩,hh'⟩;simp only at ht hh';subst ht hh';have mid:=ZtZ (u_ hi) (u_ lo) undef undef undef (u_ 0) (u_ 0) (u_ 0) (u_ n0) (u_ lo) (u_ u0) (u_ rh) undef undef y n1 hi u1 q1 (m/n1) g1;rw[hm] at mid;refine zl (Zf Za5) mid.t (Za (Xb (by omega:¬ n1=0)) (Zz (Zue (n:=m) (by omega) b1.1))) fun g2=> ?_;refine Runs.seq (P1:=fun e z=>e=none∧(∃ rh g,z.1=dFr (u_ hi) (u_ lo) (u_ y) undef undef undef (u_ 0) (u_ 0) (u_ 0) (u_ n1) (u_ n0) (u_ hi) (u_ lo) (u_ u1) (u_ u0) (u_ q1) (u_ rh) (u_ m) (u_ (dgt n1 n0 m u0))++tl 116 g)∧z.2.1=⟨0,[]⟩) ?_ ?_ (fun e z he=>by cases he.1)
  ·refine (Zuc (u_ hi) (u_ lo) (u_ y) undef undef undef (u_ 0) (u_ 0) (u_ 0) (u_ hi) (u_ lo) (u_ u1) (u_ q1) (u_ m) n1 n0 m u0 _ _ D2 g2 []).mono fun e z he=> ?_
   match e,he with
   | none,he=>exact⟨rfl,he⟩
  rintro⟨t,h',s⟩ ⟨_,⟨rh2,g3,ht⟩,hh'⟩;simp only at ht hh';subst ht hh';generalize hq0:dgt n1 n0 m u0=q0 at*;refine (Zj (Zf Za5) (Zua (u_ hi) (u_ lo) undef undef undef (u_ 0) (u_ 0) (u_ n1) (u_ n0) (u_ hi) (u_ lo) (u_ u1) (u_ rh2) y u0 q1 m q0 g3).t (Zz (by rfl))).mono fun e z he=> ?_;obtain⟨rfl,⟨g4,h2⟩,h3⟩:=he;refine⟨.inr rfl,?_⟩;have eq:u64.wrap (u64.wrap (q1*4294967296)+q0)=q1*4294967296+q0:=by rw[ZK,ZK];omega
  have er:(mE m u0 q0 y).fdiv (2^min ((0:Int).toNat) 64)=m*4294967296+u0-q0*y:=by
   rw[show (2:Int)^min ((0:Int).toNat) 64=1 from rfl,Int.fdiv_one,ee]
  have key:hi*18446744073709551616+lo=y*(q1*4294967296+q0)+(m*4294967296+u0-q0*y):=by
   have k1:y*(q1*4294967296+q0)=4294967296*(q1*y)+q0*y:=by
    rw[Int.mul_add,Int.mul_comm y q0,Int.mul_comm y,Int.mul_assoc,Int.mul_comm 4294967296 y,← Int.mul_assoc,Int.mul_comm (q1*y)]
   rw[k1];generalize q1*y=t1 at em ⊢;generalize q0*y=t0;omega
  have ry:0≤m*4294967296+u0-q0*y∧m*4294967296+u0-q0*y<y:=by
   rw[← ey'] at rs2;exact rs2
  have fq:(hi*18446744073709551616+lo)/y=q1*4294967296+q0:=Zgc key ry.1 ry.2;have fr:(hi*18446744073709551616+lo) % y=m*4294967296+u0-q0*y:=by
   rw[key,Int.mul_add_emod_self_left,Int.emod_eq_of_lt ry.1 ry.2]
  unfold Zzb;rw[h2,h3,eq,er,fq,fr];rfl
end Go.Proofs.YtekebccjflilnaaGreat
namespace Go.Proofs.YtekebccjflilnaaGreat
open Go.Proofs.Tryz
open Go.KRun Go.Wd
set_option maxRecDepth 100000
def Zuf (h l b:Int):Bool×Bool:=(decide (zd h∧zd l∧9223372036854775808≤b∧b<18446744073709551616∧h<b),true)
def Z1T:Ans:=fun vals s=>
 match vals with
 | [x,y,z]=>
  match u1m x,u1m y,u1m z with
  | some h,some l,some b=>some (Zzb h l b,s,[Zuf h l b])
  | _,_,_=>none
 | _=>none
theorem Zug:ZJ 113 Z1T:=by
 intro vals s v s' lg h hl w;unfold Z1T at h;split at h
 ·split at h
  ·rename_i x y z hx hy hz;cases h;have h1:=hl _ Xf;simp only[Zuf,Xi] at h1;rw[zE hx,zE hy,zE hz];exact Zmu _ _ _ h1.1 h1.2.1 ⟨h1.2.2.1,h1.2.2.2.1⟩ h1.2.2.2.2 w
  ·cases h
 ·cases h
def Zuh:Con:=alt 113 Z1T Zo
theorem ZhQ:ConOk Zuh:=Zy func113 rfl Zug Zd
theorem Zmv (h l b:Int):Zw (Ze (Zi prog Zh Zuh true) 300 109 [u_ h,u_ l,u_ b] [cmp true]) (u_ 18446744073709551615) [(decide (h≥b),true)]:=by and_intros<;>kernel_rfl
theorem Zmw (h l b:Int):Zw (Ze (Zi prog Zh Zuh true) 300 109 [u_ h,u_ l,u_ b] [cmp false]) (u_ ((h*18446744073709551616+l)/b)) [Zuf h l b,(decide (h≥b),false)]:=by and_intros<;>kernel_rfl
def gs (h l b:Int):Int:=if h≥b then 18446744073709551615 else (h*18446744073709551616+l)/b
def gok (h l b:Int):Bool×Bool:=(decide (zd h∧zd l∧9223372036854775808≤b∧b<18446744073709551616),true)
theorem ZgA (h l b:Int) (hh:zd h) (hl:zd l) (hb:9223372036854775808≤b∧b<18446744073709551616) (w:World):Calls prog 109 #[u_ h,u_ l,u_ b] w fun e w'=>e= .returned (u_ (gs h l b))∧zg w w':=by
 unfold gs;by_cases hc:h≥b
 ·rw[if_pos hc];exact Zb (Zf ZhQ) (Zmv h l b) (Zz (Xa hc)) (by rfl) (by rfl) w
 ·rw[if_neg hc];exact Zb (Zf ZhQ) (Zmw h l b) (Za (Xa ⟨hh,hl,hb.1,hb.2,by omega⟩) (Zz (Xb hc))) (by rfl) (by rfl) w
def Zmx:Ans:=fun vals s=>
 match vals with
 | [x,y,z]=>
  match u1m x,u1m y,u1m z with
  | some h,some l,some b=>some (u_ (gs h l b),s,[gok h l b])
  | _,_,_=>none
 | _=>none
theorem Zmy:ZJ 109 Zmx:=by
 intro vals s v s' lg h hl w;unfold Zmx at h;split at h
 ·split at h
  ·rename_i x y z hx hy hz;cases h;have h1:=hl _ Xf;simp only[gok,Xi] at h1;rw[zE hx,zE hy,zE hz];exact ZgA _ _ _ h1.1 h1.2.1 h1.2.2 w
  ·cases h
 ·cases h
def zk:Con:=alt 109 Zmx (alt 99 gMA (alt 93 (g1 Zkd) (alt 72 (g1n (Za3 Zgd)) (alt 103 (g1n (Za3 Znp)) Zo))))
theorem Zch:ConOk zk:=Zy func109 rfl Zmy (Zy func99 rfl Zqf (Zy func93 rfl (Zr6 Zct) (Zy func72 rfl (zN Zbm) (Zy func103 rfl (zN Zdq) Zd))))
def eN (F:Func):Nat→Code
 | 0=>Zv F
 | n+1=>Z5 (eN F n)
def Z2C (F:Func):List Code:=(List.range 8).map fun i=>ZB (eN F i)
def qRW (F:Func):Code:=ZB (ZB (eN F 8))
def Zmz (F:Func):Code:=cIn (cIn (Z5 (ZB (eN F 8))))
def Z2D (F:Func):Code:=eN F 9
theorem Zpr:f71.body=some (Zaz (Z2C f71) (.seq (.seq (qRW f71) (.block 0 (.loop (Zmz f71)))) (Z2D f71))):=by kernel_rfl
def t_ (n:Nat):Value:= .pointer (some ⟨n,0,none⟩)
def vQ (l:List Int):List Value:=l.map (Value.int .u64)
def qFr (v0 v1:Value) (n up i:Int) (v14 v15:Value):List Value:=[v0,v1,t_ 0,t_ 1,t_ 2,t_ 3,.nilIface,.int .i64 n,.int .i64 up,t_ 4,t_ 5,t_ 6,t_ 7,.int .i64 i,v14,v15]
def cW (x:W4):List Value×TypeId:=([.int .u64 x.a,.int .u64 x.b,.int .u64 x.c,.int .u64 x.d],53)
def qHp (a b lw:W4) (by_ rest quo:List Int):Hp:=⟨8,[(vQ quo,53),(vQ rest,129),cW lw,(vQ by_,53),cW ⟨0,0,0,0⟩,cW ⟨0,0,0,0⟩,cW b,cW a]⟩
end Go.Proofs.YtekebccjflilnaaGreat
namespace Go.Proofs.YtekebccjflilnaaGreat
open Go.IntKind
open Go.KRun Go.Wd
set_option maxRecDepth 100000
def Zjc (q:Int):List Int→List Int→Int→Int→List Int
 | y::ys,p::ps,c,b=>Go.Wd.sb p (lo y q 0 c) b::Zjc q ys ps (hi y q 0 c) (bo p (lo y q 0 c) b)
 | [],p::_,c,b=>[Go.Wd.sb p c b]
 | _,[],_,_=>[]
def Zfc (q:Int):List Int→List Int→Int→Int→Int
 | y::ys,p::ps,c,b=>Zfc q ys ps (hi y q 0 c) (bo p (lo y q 0 c) b)
 | [],p::_,c,b=>bo p c b
 | _,[],_,_=>0
def Zq6 (q:Int):List Int→List Int→Int→Int→Log→Log
 | y::ys,p::ps,c,b,L=>Zq6 q ys ps (hi y q 0 c) (bo p (lo y q 0 c) b) (okS p (lo y q 0 c) b::wl y q 0 c::yes::L)
 | [],p::_,c,b,L=>okS p c b::no::L
 | _,[],_,_,L=>L
def Zd9:List Int→List Int→Int→List Int
 | y::ys,p::ps,c=>ad p y c::Zd9 ys ps (ca p y c)
 | [],p::_,c=>[ad p 0 c]
 | _,[],_=>[]
def ZhR:List Int→List Int→Int→Int
 | y::ys,p::ps,c=>ZhR ys ps (ca p y c)
 | [],p::_,c=>ca p 0 c
 | _,[],_=>0
def Zu9:List Int→List Int→Int→Log→Log
 | y::ys,p::ps,c,L=>Zu9 ys ps (ca p y c) (okA p y c::yes::L)
 | [],p::_,c,L=>okA p 0 c::no::L
 | _,[],_,L=>L
def gsL (n:Nat) (ys ps:List Int):Int:=gs (ps.getD n 0) (ps.getD (n-1) 0) (ys.getD (n-1) 0)
def ZmA (n:Nat) (ys ps:List Int):Bool×Bool:=gok (ps.getD n 0) (ps.getD (n-1) 0) (ys.getD (n-1) 0)
def ps0 (n:Nat) (ys ps:List Int):List Int:=Zjc (gsL n ys ps) ys ps 0 0
def ps1 (n:Nat) (ys ps:List Int):List Int:=Zd9 ys (ps0 n ys ps) 0
def ps2 (n:Nat) (ys ps:List Int):List Int:=Zd9 ys (ps1 n ys ps) 0
def tkO (n:Nat):Nat→List Int→List Int→List Int
 | 0,ys,ps=>ps0 n ys ps
 | 1,ys,ps=>ps1 n ys ps
 | _,ys,ps=>ps2 n ys ps
def tkD (n:Nat):Nat→List Int→List Int→Int
 | 0,ys,ps=>gsL n ys ps
 | 1,ys,ps=>u64.wrap (gsL n ys ps-1)
 | _,ys,ps=>u64.wrap (u64.wrap (gsL n ys ps-1)-1)
def tkG (n:Nat):Nat→List Int→List Int→Log
 | 0,ys,ps=>(Zfc (gsL n ys ps) ys ps 0 0 !=0,false)::Zq6 (gsL n ys ps) ys ps 0 0 [ZmA n ys ps,yes]
 | 1,ys,ps=>(ZhR ys (ps0 n ys ps) 0 !=0,true)::Zu9 ys (ps0 n ys ps) 0 ((Zfc (gsL n ys ps) ys ps 0 0 !=0,true)::Zq6 (gsL n ys ps) ys ps 0 0 [ZmA n ys ps,yes])
 | _,ys,ps=>(ZhR ys (ps1 n ys ps) 0 !=0,true)::Zu9 ys (ps1 n ys ps) 0 ((ZhR ys (ps0 n ys ps) 0 !=0,false)::Zu9 ys (ps0 n ys ps) 0 ((Zfc (gsL n ys ps) ys ps 0 0 !=0,true)::Zq6 (gsL n ys ps) ys ps 0 0 [ZmA n ys ps,yes]))
def rng:Nat→List Dec→List Dec
 | 0,s=>cmp false::s
 | n+1,s=>cmp true::rng n s
def tkS (n:Nat):Nat→List Dec
 | 0=>cmp true::rng n [cmp false]
 | 1=>cmp true::rng n (cmp true::rng n [cmp true])
 | _=>cmp true::rng n (cmp true::rng n (cmp false::rng n [cmp true]))
def Rd (T:Tab) (F:Func) (n i c:Nat) (v0 v1 v14 v15:Value) (up d0 d1 d2 d3 r0 r1 r2 r3 r4 q0 q1 q2 q3:Int) (a b lw:W4) (g:Nat→Value):Prop:=
 Zm (evC T 500 false (Zmz F) (qFr v0 v1 n up i v14 v15++tl 70 g,qHp a b lw [d0,d1,d2,d3] [r0,r1,r2,r3,r4] [q0,q1,q2,q3],tkS n c) ⟨[],[],[]⟩) 16 70 none
  (qFr v0 v1 n up (i64.wrap ((i:Int)-1)) v14 v15)
  (qHp a b lw [d0,d1,d2,d3] ([r0,r1,r2,r3,r4].take i++(tkO n c ([d0,d1,d2,d3].take n) (([r0,r1,r2,r3,r4].drop i).take (n+1))++[r0,r1,r2,r3,r4].drop (i+n+1))) ([q0,q1,q2,q3].set i (tkD n c ([d0,d1,d2,d3].take n) (([r0,r1,r2,r3,r4].drop i).take (n+1)))))
  (tkG n c ([d0,d1,d2,d3].take n) (([r0,r1,r2,r3,r4].drop i).take (n+1)))
end Go.Proofs.YtekebccjflilnaaGreat
namespace Go.Proofs.YtekebccjflilnaaGreat
open Go.KRun Go.Wd
set_option maxRecDepth 100000
theorem ZS:∀ (l m:List Int),vB (l++m)=vB l+18446744073709551616^l.length*vB m
 | [],m=>by simp [vB]
 | d::ds,m=>by
  simp only[List.cons_append,vB,List.length_cons,Int.pow_succ];rw[ZS ds m,Int.mul_add,Int.mul_comm (18446744073709551616^ds.length) 18446744073709551616,Int.mul_assoc];omega
theorem Zbw:∀ (l:List Int),ZT l→0≤vB l∧vB l<18446744073709551616^l.length
 | [],_=>by simp [vB]
 | d::ds,h=>by
  have h1:=Zbw ds fun x hx=>h x (Xd _ hx);have h2:=h d Xe;unfold zd at h2;simp only[vB,List.length_cons,Int.pow_succ];rw[Int.mul_comm (18446744073709551616^ds.length)];omega
theorem Zm0 {x y c:Int}(hx:zd x) (hy:zd y) (hc:0≤c∧c≤1):zd (Go.Wd.sb x y c)∧(bo x y c=0∨bo x y c=1)∧Go.Wd.sb x y c=x-y-c+18446744073709551616*bo x y c:=by
 unfold zd Go.Wd.sb at*;have:=Zbj x y c;generalize bo x y c=k at*;omega
theorem Zm1 {x y c:Int}(hx:zd x) (hy:zd y) (hc:0≤c∧c≤1):zd (ad x y c)∧(ca x y c=0∨ca x y c=1)∧ad x y c+18446744073709551616*ca x y c=x+y+c:=by
 unfold zd ad ca at*;omega
theorem ZhS {q:Int}(hq:zd q):∀ (ys ps:List Int) (c b:Int) (L:Log),ZT ys→ZT ps→ps.length=ys.length+1→zd c→(0≤b∧b≤1)→Zx L→
  ZT (Zjc q ys ps c b)∧(Zjc q ys ps c b).length=ps.length∧(Zfc q ys ps c b=0∨Zfc q ys ps c b=1)∧Zx (Zq6 q ys ps c b L)∧
   vB (Zjc q ys ps c b)=vB ps-vB ys*q-c-b+18446744073709551616^ps.length*Zfc q ys ps c b
 | [],[p],c,b,L,_,hp,_,hc,hb,hL=>by
  have p1:=hp p Xe;obtain⟨e1,e2,e3⟩:=Zm0 p1 hc hb;refine⟨fun d hd=> ?_,rfl,e2,Za (Xa ⟨p1.1,hc.1,hc.2,hb.1,hb.2⟩) (Za Zr5 hL),?_⟩
  ·simp only[Zjc,List.mem_singleton] at hd;rw[hd];exact e1
  ·simp only[Zjc,Zfc,vB,List.length_cons,List.length_nil];rw[e3];omega
 | y::ys,p::ps,c,b,L,hy,hp,hl,hc,hb,hL=>by
  have y1:=hy y Xe;have p1:=hp p Xe;have w0:zd 0:=by unfold zd;omega
  obtain⟨l1,l2,l3⟩:=Z22 y1 hq w0 hc;obtain⟨e1,e2,e3⟩:=Zm0 p1 l1 hb;simp only[List.length_cons,Nat.add_right_cancel_iff] at hl;obtain⟨g1,g2,g3,g4,g5⟩:=ZhS hq ys ps (hi y q 0 c) (bo p (lo y q 0 c) b) (okS p (lo y q 0 c) b::wl y q 0 c::yes::L) (fun x hx=>hy x (Xd _ hx)) (fun x hx=>hp x (Xd _ hx)) hl l2 (by omega)
   (Za (Xa ⟨p1.1,l1.1,l1.2,hb.1,hb.2⟩) (Za (Xa ⟨y1,hq,w0,hc⟩) (Za Zai hL)))
  refine⟨fun d hd=> ?_,by simp only[Zjc,List.length_cons,g2],g3,g4,?_⟩
  ·simp only[Zjc] at hd;rcases List.mem_cons.1 hd with rfl | hd
   ·exact e1
   ·exact g1 d hd
  ·simp only[Zjc,Zfc,vB,List.length_cons,Int.pow_succ];rw[g5,e3,Int.mul_comm (18446744073709551616^ps.length) 18446744073709551616,Int.mul_assoc,Int.add_mul,Int.mul_assoc];generalize 18446744073709551616^ps.length*Zfc q ys ps (hi y q 0 c) (bo p (lo y q 0 c) b)=t at*;generalize vB ys*q=v at*;generalize y*q=z at*;omega
 | [],[],_,_,_,_,_,hl,_,_,_=>by simp at hl
 | _::_,[],_,_,_,_,_,hl,_,_,_=>by simp at hl
 | [],_::_::_,_,_,_,_,_,hl,_,_,_=>by simp at hl
theorem ZcY:∀ (ys ps:List Int) (c:Int) (L:Log),ZT ys→ZT ps→ps.length=ys.length+1→(0≤c∧c≤1)→Zx L→
  ZT (Zd9 ys ps c)∧(Zd9 ys ps c).length=ps.length∧(ZhR ys ps c=0∨ZhR ys ps c=1)∧Zx (Zu9 ys ps c L)∧
   vB (Zd9 ys ps c)+18446744073709551616^ps.length*ZhR ys ps c=vB ps+vB ys+c
 | [],[p],c,L,_,hp,_,hc,hL=>by
  have p1:=hp p Xe;have w0:zd 0:=by unfold zd;omega
  obtain⟨e1,e2,e3⟩:=Zm1 p1 w0 hc;refine⟨fun d hd=> ?_,rfl,e2,Za (Xa ⟨p1.1,by omega,hc.1,hc.2⟩) (Za Zr5 hL),?_⟩
  ·simp only[Zd9,List.mem_singleton] at hd;rw[hd];exact e1
  ·simp only[Zd9,ZhR,vB,List.length_cons,List.length_nil];omega
 | y::ys,p::ps,c,L,hy,hp,hl,hc,hL=>by
  have y1:=hy y Xe;have p1:=hp p Xe;obtain⟨e1,e2,e3⟩:=Zm1 p1 y1 hc;simp only[List.length_cons,Nat.add_right_cancel_iff] at hl;obtain⟨g1,g2,g3,g4,g5⟩:=ZcY ys ps (ca p y c) (okA p y c::yes::L) (fun x hx=>hy x (Xd _ hx)) (fun x hx=>hp x (Xd _ hx)) hl (by omega)
   (Za (Xa ⟨p1.1,y1.1,hc.1,hc.2⟩) (Za Zai hL))
  refine⟨fun d hd=> ?_,by simp only[Zd9,List.length_cons,g2],g3,g4,?_⟩
  ·simp only[Zd9] at hd;rcases List.mem_cons.1 hd with rfl | hd
   ·exact e1
   ·exact g1 d hd
  ·simp only[Zd9,ZhR,vB,List.length_cons,Int.pow_succ];rw[Int.mul_comm (18446744073709551616^ps.length) 18446744073709551616,Int.mul_assoc];generalize 18446744073709551616^ps.length*ZhR ys ps (ca p y c)=t at*;omega
 | [],[],_,_,_,_,hl,_,_=>by simp at hl
 | _::_,[],_,_,_,_,hl,_,_=>by simp at hl
 | [],_::_::_,_,_,_,_,hl,_,_=>by simp at hl
end Go.Proofs.YtekebccjflilnaaGreat
namespace Go.Proofs.YtekebccjflilnaaGreat
open Go.IntKind
open Go.KRun Go.Wd
set_option maxRecDepth 100000
theorem Zfd {l:List Int}{k:Nat}(h:l.length=k+1):∃ a x,l=a++[x]∧a.length=k:=by
 have hne:l≠[]:=fun e=>by rw[e] at h;simp at h
 exact⟨l.dropLast,l.getLast hne,(List.dropLast_concat_getLast hne).symm,by rw[List.length_dropLast];omega⟩
theorem Zci (a:List Int) (x:Int) (m:List Int) {k:Nat}(h:a.length=k):(a++x::m).getD k 0=x:=by
 subst h;simp
theorem Zui {h l dt R d0 p0:Int}(hh:zd h) (hl:zd l) (hd:9223372036854775808≤dt∧dt<18446744073709551616) (hR:0<R) (hd0:0≤d0∧d0<R) (hp0:0≤p0∧p0<R)
  (hP:(h*18446744073709551616+l)*R+p0<18446744073709551616*(dt*R+d0)):
  zd (gs h l dt)∧0≤((h*18446744073709551616+l)*R+p0)/(dt*R+d0)∧((h*18446744073709551616+l)*R+p0)/(dt*R+d0)≤gs h l dt∧gs h l dt≤((h*18446744073709551616+l)*R+p0)/(dt*R+d0)+2:=by
 unfold zd at*;have hN:0≤(h*18446744073709551616+l)*R:=Int.mul_nonneg (by omega) (by omega);have hD:0<dt*R:=Int.mul_pos (by omega) hR;have hq0:0≤((h*18446744073709551616+l)*R+p0)/(dt*R+d0):=Int.ediv_nonneg (by omega) (by omega);obtain⟨g1,g2⟩:=ZfO (B:=18446744073709551616) hR (by omega) hd0.1 hp0.2 hq0 hP;have gu:gs h l dt≤(h*18446744073709551616+l)/dt:=by
  unfold gs;split
  ·refine Int.le_ediv_of_mul_le (by omega) ?_;omega
  ·exact Int.le_refl _
 have g3:=Zjb (B:=18446744073709551616) hR (by omega) (by omega) hd0.2 hp0.1 hP hd0.1 gu;have gl:((h*18446744073709551616+l)*R+p0)/(dt*R+d0)≤gs h l dt:=by
  unfold gs;split
  ·omega
  ·exact g1
 refine⟨⟨by omega,?_⟩,hq0,gl,g3⟩;unfold gs;split
 ·omega
 ·exact Int.ediv_lt_of_lt_mul (by omega) (by omega)
theorem Zb6 (n:Nat):(0:Int)<18446744073709551616^n:=Int.pow_pos (by omega)
theorem Zps {a:Int}(h:a=1):(a !=0,true).1=(a !=0,true).2:=by subst h;rfl
theorem Zyg {a:Int}(h:a=0):(a !=0,false).1=(a !=0,false).2:=by subst h;rfl
theorem Zuj {k:Nat}{ys ps:List Int}(ly:ys.length=k+1) (lp:ps.length=k+2) (wy:ZT ys) (wp:ZT ps) (top:9223372036854775808≤ys.getD k 0) (hlt:vB ps<18446744073709551616*vB ys):
  ∃ c,c<3∧tkD (k+1) c ys ps=vB ps/vB ys∧ZT (tkO (k+1) c ys ps)∧(tkO (k+1) c ys ps).length=k+2∧vB (tkO (k+1) c ys ps)=vB ps % vB ys∧Zx (tkG (k+1) c ys ps):=by
 obtain⟨d0s,dt,ey,l0⟩:=Zfd ly;obtain⟨p1s,h,ep,l1⟩:=Zfd lp;obtain⟨p0s,l,ep1,l2⟩:=Zfd l1;have ep':ps=p0s++l::[h]:=by rw[ep,ep1,List.append_assoc];rfl
 have wdt:zd dt:=wy dt (by rw[ey];simp);have wh:zd h:=wp h (by rw[ep];simp);have wl':zd l:=wp l (by rw[ep'];simp);have g1:ys.getD k 0=dt:=by rw[ey];exact Zci d0s dt [] l0
 have g2:ps.getD (k+1) 0=h:=by rw[ep];exact Zci p1s h [] l1
 have g3:ps.getD k 0=l:=by rw[ep'];exact Zci p0s l [h] l2
 rw[g1] at top;have eG:gsL (k+1) ys ps=gs h l dt:=by unfold gsL;rw[Nat.add_sub_cancel,g1,g2,g3]
 have eK:ZmA (k+1) ys ps=gok h l dt:=by unfold ZmA;rw[Nat.add_sub_cancel,g1,g2,g3]
 have hg:(gok h l dt).1=(gok h l dt).2:=Xa ⟨wh,wl',top,wdt.2⟩;have bd0:=Zbw d0s (fun x hx=>wy x (by rw[ey];exact List.mem_append_left _ hx));have bp0:=Zbw p0s (fun x hx=>wp x (by rw[ep'];exact List.mem_append_left _ hx));have vy:vB ys=dt*18446744073709551616^k+vB d0s:=by
  rw[ey,ZS,l0];simp only[vB];rw[Int.mul_zero,Int.add_zero,Int.mul_comm dt];omega
 have vp:vB ps=(h*18446744073709551616+l)*18446744073709551616^k+vB p0s:=by
  rw[ep',ZS,l2];simp only[vB];rw[Int.mul_zero,Int.add_zero,Int.mul_comm _ (18446744073709551616^k),Int.mul_comm h,Int.add_comm l];omega
 rw[l0] at bd0;rw[l2] at bp0;obtain⟨wG,q0,qG,Gq⟩:=Zui wh wl' ⟨top,wdt.2⟩ (Zb6 k) bd0 bp0 (by rw[← vy,← vp];exact hlt);rw[← vy,← vp] at q0 qG Gq;rw[← eG] at wG qG Gq;rw[← eK] at hg;have by_:=Zbw ys wy;have bp:=Zbw ps wp;have hyp:0<vB ys:=by
  rw[vy];have:=Int.mul_pos (show 0<dt by omega) (Zb6 k);omega
 have hLs:Zx [ZmA (k+1) ys ps,yes]:=Za hg (Zz Zai);have w0:zd 0:=by unfold zd;omega
 obtain⟨a1,a2,a3,a4,a5⟩:=ZhS wG ys ps 0 0 [ZmA (k+1) ys ps,yes] wy wp (by omega) w0 (by omega) hLs;have b0:=Zbw _ a1;have dm:=Int.mul_ediv_add_emod (vB ps) (vB ys);have r0:=Int.emod_nonneg (vB ps) (show vB ys≠0 by omega);have r1:=Int.emod_lt_of_pos (vB ps) hyp;have kK:vB ys<18446744073709551616^ps.length:=by
  have:(18446744073709551616:Int)^ps.length=18446744073709551616^ys.length*18446744073709551616:=by rw[lp,ly,← Int.pow_succ]
  rw[this];have:=Zb6 ys.length;omega
 rw[a2] at b0;generalize hK:(18446744073709551616:Int)^ps.length=K at*;generalize hq:vB ps/vB ys=q at*;generalize hr:vB ps % vB ys=r at*;have hj:gsL (k+1) ys ps=q∨gsL (k+1) ys ps=q+1∨gsL (k+1) ys ps=q+2:=by omega
 rcases hj with hj | hj | hj
 ·have e:vB (Zjc (gsL (k+1) ys ps) ys ps 0 0)=r+K*Zfc (gsL (k+1) ys ps) ys ps 0 0:=by rw[a5,hj];omega
  have ob:Zfc (gsL (k+1) ys ps) ys ps 0 0=0:=by
   rcases a3 with h | h
   ·exact h
   ·rw[h] at e;omega
  refine⟨0,by omega,hj,a1,by show (ps0 (k+1) ys ps).length=k+2;unfold ps0;omega,?_,?_⟩
  ·show vB (ps0 (k+1) ys ps)=r;unfold ps0;rw[e,ob];omega
  ·exact Za (Zyg ob) a4
 ·have e:vB (Zjc (gsL (k+1) ys ps) ys ps 0 0)=r-vB ys+K*Zfc (gsL (k+1) ys ps) ys ps 0 0:=by rw[a5,hj,Int.mul_add,Int.mul_one];omega
  have ob:Zfc (gsL (k+1) ys ps) ys ps 0 0=1:=by
   rcases a3 with h | h
   ·rw[h] at e;omega
   ·exact h
  rw[ob] at e;obtain⟨c1,c2,c3,c4,c5⟩:=ZcY ys (ps0 (k+1) ys ps) 0 ((Zfc (gsL (k+1) ys ps) ys ps 0 0 !=0,true)::Zq6 (gsL (k+1) ys ps) ys ps 0 0 [ZmA (k+1) ys ps,yes]) wy a1 (by unfold ps0;omega) (by omega) (Za (Zps ob) a4);have d0:=Zbw _ c1;have lk:(ps0 (k+1) ys ps).length=ps.length:=a2;rw[c2,lk,hK] at d0;rw[lk,hK,show vB (ps0 (k+1) ys ps)=r-vB ys+K*1 from e] at c5;have oc:ZhR ys (ps0 (k+1) ys ps) 0=1:=by
   rcases c3 with h | h
   ·rw[h] at c5;omega
   ·exact h
  refine⟨1,by omega,?_,c1,by show (ps1 (k+1) ys ps).length=k+2;unfold ps1;omega,?_,Za (Zps oc) c4⟩
  ·show u64.wrap (gsL (k+1) ys ps-1)=q;rw[ZN (by omega) (by unfold zd at wG;omega)];omega
  ·show vB (ps1 (k+1) ys ps)=r;unfold ps1;rw[oc] at c5;omega
 ·have e:vB (Zjc (gsL (k+1) ys ps) ys ps 0 0)=r-2*vB ys+K*Zfc (gsL (k+1) ys ps) ys ps 0 0:=by rw[a5,hj,Int.mul_add];omega
  have ob:Zfc (gsL (k+1) ys ps) ys ps 0 0=1:=by
   rcases a3 with h | h
   ·rw[h] at e;omega
   ·exact h
  rw[ob] at e;obtain⟨c1,c2,c3,c4,c5⟩:=ZcY ys (ps0 (k+1) ys ps) 0 ((Zfc (gsL (k+1) ys ps) ys ps 0 0 !=0,true)::Zq6 (gsL (k+1) ys ps) ys ps 0 0 [ZmA (k+1) ys ps,yes]) wy a1 (by unfold ps0;omega) (by omega) (Za (Zps ob) a4);have d0:=Zbw _ c1;have lk:(ps0 (k+1) ys ps).length=ps.length:=a2;rw[c2,lk,hK] at d0;rw[lk,hK,show vB (ps0 (k+1) ys ps)=r-2*vB ys+K*1 from e] at c5;have oc:ZhR ys (ps0 (k+1) ys ps) 0=0:=by
   rcases c3 with h | h
   ·exact h
   ·rw[h] at c5;omega
  rw[oc] at c5;obtain⟨x1,x2,x3,x4,x5⟩:=ZcY ys (ps1 (k+1) ys ps) 0 ((ZhR ys (ps0 (k+1) ys ps) 0 !=0,false)::Zu9 ys (ps0 (k+1) ys ps) 0 ((Zfc (gsL (k+1) ys ps) ys ps 0 0 !=0,true)::Zq6 (gsL (k+1) ys ps) ys ps 0 0 [ZmA (k+1) ys ps,yes])) wy c1 (by unfold ps1;omega) (by omega) (Za (Zyg oc) c4);have y0:=Zbw _ x1;have lk1:(ps1 (k+1) ys ps).length=ps.length:=by unfold ps1;omega
  rw[x2,lk1,hK] at y0;have e1:vB (ps1 (k+1) ys ps)=r-vB ys+K:=by unfold ps1;omega
  rw[lk1,hK,e1] at x5;have od:ZhR ys (ps1 (k+1) ys ps) 0=1:=by
   rcases x3 with h | h
   ·rw[h] at x5;omega
   ·exact h
  refine⟨2,by omega,?_,x1,by show (ps2 (k+1) ys ps).length=k+2;unfold ps2;omega,?_,Za (Zps od) x4⟩
  ·show u64.wrap (u64.wrap (gsL (k+1) ys ps-1)-1)=q;have:u64.wrap (gsL (k+1) ys ps-1)=q+1:=by rw[ZN (by omega) (by unfold zd at wG;omega)];omega
   rw[this,ZN (by omega) (by unfold zd at wG;omega)];omega
  ·show vB (ps2 (k+1) ys ps)=r;unfold ps2;rw[od] at x5;omega
end Go.Proofs.YtekebccjflilnaaGreat
namespace Go.Proofs.YtekebccjflilnaaGreat
open Go.Proofs.Tryz
open Go.KRun Go.Wd
set_option maxRecDepth 100000
theorem Zyh (v0 v1 v14 v15:Value) (up d0 d1 d2 d3 r0 r1 r2 r3 r4 q0 q1 q2 q3:Int) (a b lw:W4) (g:Nat→Value):Rd (Zi prog Zh zk true) f71 1 0 0 v0 v1 v14 v15 up d0 d1 d2 d3 r0 r1 r2 r3 r4 q0 q1 q2 q3 a b lw g:=by and_intros<;>kernel_rfl
theorem Zyi (v0 v1 v14 v15:Value) (up d0 d1 d2 d3 r0 r1 r2 r3 r4 q0 q1 q2 q3:Int) (a b lw:W4) (g:Nat→Value):Rd (Zi prog Zh zk true) f71 1 0 1 v0 v1 v14 v15 up d0 d1 d2 d3 r0 r1 r2 r3 r4 q0 q1 q2 q3 a b lw g:=by and_intros<;>kernel_rfl
theorem Zyj (v0 v1 v14 v15:Value) (up d0 d1 d2 d3 r0 r1 r2 r3 r4 q0 q1 q2 q3:Int) (a b lw:W4) (g:Nat→Value):Rd (Zi prog Zh zk true) f71 1 0 2 v0 v1 v14 v15 up d0 d1 d2 d3 r0 r1 r2 r3 r4 q0 q1 q2 q3 a b lw g:=by and_intros<;>kernel_rfl
theorem Zyk (v0 v1 v14 v15:Value) (up d0 d1 d2 d3 r0 r1 r2 r3 r4 q0 q1 q2 q3:Int) (a b lw:W4) (g:Nat→Value):Rd (Zi prog Zh zk true) f71 1 1 0 v0 v1 v14 v15 up d0 d1 d2 d3 r0 r1 r2 r3 r4 q0 q1 q2 q3 a b lw g:=by and_intros<;>kernel_rfl
theorem Zyl (v0 v1 v14 v15:Value) (up d0 d1 d2 d3 r0 r1 r2 r3 r4 q0 q1 q2 q3:Int) (a b lw:W4) (g:Nat→Value):Rd (Zi prog Zh zk true) f71 1 1 1 v0 v1 v14 v15 up d0 d1 d2 d3 r0 r1 r2 r3 r4 q0 q1 q2 q3 a b lw g:=by and_intros<;>kernel_rfl
theorem Zym (v0 v1 v14 v15:Value) (up d0 d1 d2 d3 r0 r1 r2 r3 r4 q0 q1 q2 q3:Int) (a b lw:W4) (g:Nat→Value):Rd (Zi prog Zh zk true) f71 1 1 2 v0 v1 v14 v15 up d0 d1 d2 d3 r0 r1 r2 r3 r4 q0 q1 q2 q3 a b lw g:=by and_intros<;>kernel_rfl
theorem Zyn (v0 v1 v14 v15:Value) (up d0 d1 d2 d3 r0 r1 r2 r3 r4 q0 q1 q2 q3:Int) (a b lw:W4) (g:Nat→Value):Rd (Zi prog Zh zk true) f71 1 2 0 v0 v1 v14 v15 up d0 d1 d2 d3 r0 r1 r2 r3 r4 q0 q1 q2 q3 a b lw g:=by and_intros<;>kernel_rfl
theorem Zyo (v0 v1 v14 v15:Value) (up d0 d1 d2 d3 r0 r1 r2 r3 r4 q0 q1 q2 q3:Int) (a b lw:W4) (g:Nat→Value):Rd (Zi prog Zh zk true) f71 1 2 1 v0 v1 v14 v15 up d0 d1 d2 d3 r0 r1 r2 r3 r4 q0 q1 q2 q3 a b lw g:=by and_intros<;>kernel_rfl
theorem Zyp (v0 v1 v14 v15:Value) (up d0 d1 d2 d3 r0 r1 r2 r3 r4 q0 q1 q2 q3:Int) (a b lw:W4) (g:Nat→Value):Rd (Zi prog Zh zk true) f71 1 2 2 v0 v1 v14 v15 up d0 d1 d2 d3 r0 r1 r2 r3 r4 q0 q1 q2 q3 a b lw g:=by and_intros<;>kernel_rfl
theorem Zyq (v0 v1 v14 v15:Value) (up d0 d1 d2 d3 r0 r1 r2 r3 r4 q0 q1 q2 q3:Int) (a b lw:W4) (g:Nat→Value):Rd (Zi prog Zh zk true) f71 1 3 0 v0 v1 v14 v15 up d0 d1 d2 d3 r0 r1 r2 r3 r4 q0 q1 q2 q3 a b lw g:=by and_intros<;>kernel_rfl
theorem Zyr (v0 v1 v14 v15:Value) (up d0 d1 d2 d3 r0 r1 r2 r3 r4 q0 q1 q2 q3:Int) (a b lw:W4) (g:Nat→Value):Rd (Zi prog Zh zk true) f71 1 3 1 v0 v1 v14 v15 up d0 d1 d2 d3 r0 r1 r2 r3 r4 q0 q1 q2 q3 a b lw g:=by and_intros<;>kernel_rfl
theorem Zys (v0 v1 v14 v15:Value) (up d0 d1 d2 d3 r0 r1 r2 r3 r4 q0 q1 q2 q3:Int) (a b lw:W4) (g:Nat→Value):Rd (Zi prog Zh zk true) f71 1 3 2 v0 v1 v14 v15 up d0 d1 d2 d3 r0 r1 r2 r3 r4 q0 q1 q2 q3 a b lw g:=by and_intros<;>kernel_rfl
theorem Zyt (v0 v1 v14 v15:Value) (up d0 d1 d2 d3 r0 r1 r2 r3 r4 q0 q1 q2 q3:Int) (a b lw:W4) (g:Nat→Value):Rd (Zi prog Zh zk true) f71 2 0 0 v0 v1 v14 v15 up d0 d1 d2 d3 r0 r1 r2 r3 r4 q0 q1 q2 q3 a b lw g:=by and_intros<;>kernel_rfl
theorem Zyu (v0 v1 v14 v15:Value) (up d0 d1 d2 d3 r0 r1 r2 r3 r4 q0 q1 q2 q3:Int) (a b lw:W4) (g:Nat→Value):Rd (Zi prog Zh zk true) f71 2 0 1 v0 v1 v14 v15 up d0 d1 d2 d3 r0 r1 r2 r3 r4 q0 q1 q2 q3 a b lw g:=by and_intros<;>kernel_rfl
theorem Zyv (v0 v1 v14 v15:Value) (up d0 d1 d2 d3 r0 r1 r2 r3 r4 q0 q1 q2 q3:Int) (a b lw:W4) (g:Nat→Value):Rd (Zi prog Zh zk true) f71 2 0 2 v0 v1 v14 v15 up d0 d1 d2 d3 r0 r1 r2 r3 r4 q0 q1 q2 q3 a b lw g:=by and_intros<;>kernel_rfl
theorem Zyw (v0 v1 v14 v15:Value) (up d0 d1 d2 d3 r0 r1 r2 r3 r4 q0 q1 q2 q3:Int) (a b lw:W4) (g:Nat→Value):Rd (Zi prog Zh zk true) f71 2 1 0 v0 v1 v14 v15 up d0 d1 d2 d3 r0 r1 r2 r3 r4 q0 q1 q2 q3 a b lw g:=by and_intros<;>kernel_rfl
theorem Zyx (v0 v1 v14 v15:Value) (up d0 d1 d2 d3 r0 r1 r2 r3 r4 q0 q1 q2 q3:Int) (a b lw:W4) (g:Nat→Value):Rd (Zi prog Zh zk true) f71 2 1 1 v0 v1 v14 v15 up d0 d1 d2 d3 r0 r1 r2 r3 r4 q0 q1 q2 q3 a b lw g:=by and_intros<;>kernel_rfl
theorem Zyy (v0 v1 v14 v15:Value) (up d0 d1 d2 d3 r0 r1 r2 r3 r4 q0 q1 q2 q3:Int) (a b lw:W4) (g:Nat→Value):Rd (Zi prog Zh zk true) f71 2 1 2 v0 v1 v14 v15 up d0 d1 d2 d3 r0 r1 r2 r3 r4 q0 q1 q2 q3 a b lw g:=by and_intros<;>kernel_rfl
theorem Zyz (v0 v1 v14 v15:Value) (up d0 d1 d2 d3 r0 r1 r2 r3 r4 q0 q1 q2 q3:Int) (a b lw:W4) (g:Nat→Value):Rd (Zi prog Zh zk true) f71 2 2 0 v0 v1 v14 v15 up d0 d1 d2 d3 r0 r1 r2 r3 r4 q0 q1 q2 q3 a b lw g:=by and_intros<;>kernel_rfl
theorem Zy0 (v0 v1 v14 v15:Value) (up d0 d1 d2 d3 r0 r1 r2 r3 r4 q0 q1 q2 q3:Int) (a b lw:W4) (g:Nat→Value):Rd (Zi prog Zh zk true) f71 2 2 1 v0 v1 v14 v15 up d0 d1 d2 d3 r0 r1 r2 r3 r4 q0 q1 q2 q3 a b lw g:=by and_intros<;>kernel_rfl
theorem Zy1 (v0 v1 v14 v15:Value) (up d0 d1 d2 d3 r0 r1 r2 r3 r4 q0 q1 q2 q3:Int) (a b lw:W4) (g:Nat→Value):Rd (Zi prog Zh zk true) f71 2 2 2 v0 v1 v14 v15 up d0 d1 d2 d3 r0 r1 r2 r3 r4 q0 q1 q2 q3 a b lw g:=by and_intros<;>kernel_rfl
theorem Zy2 (v0 v1 v14 v15:Value) (up d0 d1 d2 d3 r0 r1 r2 r3 r4 q0 q1 q2 q3:Int) (a b lw:W4) (g:Nat→Value):Rd (Zi prog Zh zk true) f71 3 0 0 v0 v1 v14 v15 up d0 d1 d2 d3 r0 r1 r2 r3 r4 q0 q1 q2 q3 a b lw g:=by and_intros<;>kernel_rfl
theorem Zy3 (v0 v1 v14 v15:Value) (up d0 d1 d2 d3 r0 r1 r2 r3 r4 q0 q1 q2 q3:Int) (a b lw:W4) (g:Nat→Value):Rd (Zi prog Zh zk true) f71 3 0 1 v0 v1 v14 v15 up d0 d1 d2 d3 r0 r1 r2 r3 r4 q0 q1 q2 q3 a b lw g:=by and_intros<;>kernel_rfl
theorem Zy4 (v0 v1 v14 v15:Value) (up d0 d1 d2 d3 r0 r1 r2 r3 r4 q0 q1 q2 q3:Int) (a b lw:W4) (g:Nat→Value):Rd (Zi prog Zh zk true) f71 3 0 2 v0 v1 v14 v15 up d0 d1 d2 d3 r0 r1 r2 r3 r4 q0 q1 q2 q3 a b lw g:=by and_intros<;>kernel_rfl
theorem Zy5 (v0 v1 v14 v15:Value) (up d0 d1 d2 d3 r0 r1 r2 r3 r4 q0 q1 q2 q3:Int) (a b lw:W4) (g:Nat→Value):Rd (Zi prog Zh zk true) f71 3 1 0 v0 v1 v14 v15 up d0 d1 d2 d3 r0 r1 r2 r3 r4 q0 q1 q2 q3 a b lw g:=by and_intros<;>kernel_rfl
theorem Zy6 (v0 v1 v14 v15:Value) (up d0 d1 d2 d3 r0 r1 r2 r3 r4 q0 q1 q2 q3:Int) (a b lw:W4) (g:Nat→Value):Rd (Zi prog Zh zk true) f71 3 1 1 v0 v1 v14 v15 up d0 d1 d2 d3 r0 r1 r2 r3 r4 q0 q1 q2 q3 a b lw g:=by and_intros<;>kernel_rfl
theorem Zy7 (v0 v1 v14 v15:Value) (up d0 d1 d2 d3 r0 r1 r2 r3 r4 q0 q1 q2 q3:Int) (a b lw:W4) (g:Nat→Value):Rd (Zi prog Zh zk true) f71 3 1 2 v0 v1 v14 v15 up d0 d1 d2 d3 r0 r1 r2 r3 r4 q0 q1 q2 q3 a b lw g:=by and_intros<;>kernel_rfl
theorem Zy8 (v0 v1 v14 v15:Value) (up d0 d1 d2 d3 r0 r1 r2 r3 r4 q0 q1 q2 q3:Int) (a b lw:W4) (g:Nat→Value):Rd (Zi prog Zh zk true) f71 4 0 0 v0 v1 v14 v15 up d0 d1 d2 d3 r0 r1 r2 r3 r4 q0 q1 q2 q3 a b lw g:=by and_intros<;>kernel_rfl
theorem Zy9 (v0 v1 v14 v15:Value) (up d0 d1 d2 d3 r0 r1 r2 r3 r4 q0 q1 q2 q3:Int) (a b lw:W4) (g:Nat→Value):Rd (Zi prog Zh zk true) f71 4 0 1 v0 v1 v14 v15 up d0 d1 d2 d3 r0 r1 r2 r3 r4 q0 q1 q2 q3 a b lw g:=by and_intros<;>kernel_rfl
theorem ZyA (v0 v1 v14 v15:Value) (up d0 d1 d2 d3 r0 r1 r2 r3 r4 q0 q1 q2 q3:Int) (a b lw:W4) (g:Nat→Value):Rd (Zi prog Zh zk true) f71 4 0 2 v0 v1 v14 v15 up d0 d1 d2 d3 r0 r1 r2 r3 r4 q0 q1 q2 q3 a b lw g:=by and_intros<;>kernel_rfl
end Go.Proofs.YtekebccjflilnaaGreat
namespace Go.Proofs.YtekebccjflilnaaGreat
open Go.Proofs.Tryz
open Go.IntKind
open Go.KRun Go.Wd
set_option maxRecDepth 100000
theorem ZyB {n i c:Nat}(hn:1≤n) (hi:n+i≤4) (hc:c<3) {ds rs qs:List Int}(ld:ds.length=4) (lr:rs.length=5) (lq:qs.length=4) (v0 v1 v14 v15:Value) (up:Int) (a b lw:W4) (g:Nat→Value):
  Zm (evC (Zi prog Zh zk true) 500 false (Zmz f71) (qFr v0 v1 n up i v14 v15++tl 70 g,qHp a b lw ds rs qs,tkS n c) ⟨[],[],[]⟩) 16 70 none (qFr v0 v1 n up (i64.wrap ((i:Int)-1)) v14 v15)
   (qHp a b lw ds (rs.take i++(tkO n c (ds.take n) ((rs.drop i).take (n+1))++rs.drop (i+n+1))) (qs.set i (tkD n c (ds.take n) ((rs.drop i).take (n+1))))) (tkG n c (ds.take n) ((rs.drop i).take (n+1))):=by
 match ds,ld,rs,lr,qs,lq with
 | [d0,d1,d2,d3],_,[r0,r1,r2,r3,r4],_,[q0,q1,q2,q3],_=>
  have hn':n=1∨n=2∨n=3∨n=4:=by omega
  have hc':c=0∨c=1∨c=2:=by omega
  rcases hn' with rfl | rfl | rfl | rfl
  ·have hi':i=0∨i=1∨i=2∨i=3:=by omega
   rcases hi' with rfl | rfl | rfl | rfl
   ·rcases hc' with rfl | rfl | rfl
    ·exact Zyh v0 v1 v14 v15 up d0 d1 d2 d3 r0 r1 r2 r3 r4 q0 q1 q2 q3 a b lw g
    ·exact Zyi v0 v1 v14 v15 up d0 d1 d2 d3 r0 r1 r2 r3 r4 q0 q1 q2 q3 a b lw g
    ·exact Zyj v0 v1 v14 v15 up d0 d1 d2 d3 r0 r1 r2 r3 r4 q0 q1 q2 q3 a b lw g
   ·rcases hc' with rfl | rfl | rfl
    ·exact Zyk v0 v1 v14 v15 up d0 d1 d2 d3 r0 r1 r2 r3 r4 q0 q1 q2 q3 a b lw g
    ·exact Zyl v0 v1 v14 v15 up d0 d1 d2 d3 r0 r1 r2 r3 r4 q0 q1 q2 q3 a b lw g
    ·exact Zym v0 v1 v14 v15 up d0 d1 d2 d3 r0 r1 r2 r3 r4 q0 q1 q2 q3 a b lw g
   ·rcases hc' with rfl | rfl | rfl
    ·exact Zyn v0 v1 v14 v15 up d0 d1 d2 d3 r0 r1 r2 r3 r4 q0 q1 q2 q3 a b lw g
    ·exact Zyo v0 v1 v14 v15 up d0 d1 d2 d3 r0 r1 r2 r3 r4 q0 q1 q2 q3 a b lw g
    ·exact Zyp v0 v1 v14 v15 up d0 d1 d2 d3 r0 r1 r2 r3 r4 q0 q1 q2 q3 a b lw g
   ·rcases hc' with rfl | rfl | rfl
    ·exact Zyq v0 v1 v14 v15 up d0 d1 d2 d3 r0 r1 r2 r3 r4 q0 q1 q2 q3 a b lw g
    ·exact Zyr v0 v1 v14 v15 up d0 d1 d2 d3 r0 r1 r2 r3 r4 q0 q1 q2 q3 a b lw g
    ·exact Zys v0 v1 v14 v15 up d0 d1 d2 d3 r0 r1 r2 r3 r4 q0 q1 q2 q3 a b lw g
  ·have hi':i=0∨i=1∨i=2:=by omega
   rcases hi' with rfl | rfl | rfl
   ·rcases hc' with rfl | rfl | rfl
    ·exact Zyt v0 v1 v14 v15 up d0 d1 d2 d3 r0 r1 r2 r3 r4 q0 q1 q2 q3 a b lw g
    ·exact Zyu v0 v1 v14 v15 up d0 d1 d2 d3 r0 r1 r2 r3 r4 q0 q1 q2 q3 a b lw g
    ·exact Zyv v0 v1 v14 v15 up d0 d1 d2 d3 r0 r1 r2 r3 r4 q0 q1 q2 q3 a b lw g
   ·rcases hc' with rfl | rfl | rfl
    ·exact Zyw v0 v1 v14 v15 up d0 d1 d2 d3 r0 r1 r2 r3 r4 q0 q1 q2 q3 a b lw g
    ·exact Zyx v0 v1 v14 v15 up d0 d1 d2 d3 r0 r1 r2 r3 r4 q0 q1 q2 q3 a b lw g
    ·exact Zyy v0 v1 v14 v15 up d0 d1 d2 d3 r0 r1 r2 r3 r4 q0 q1 q2 q3 a b lw g
   ·rcases hc' with rfl | rfl | rfl
    ·exact Zyz v0 v1 v14 v15 up d0 d1 d2 d3 r0 r1 r2 r3 r4 q0 q1 q2 q3 a b lw g
    ·exact Zy0 v0 v1 v14 v15 up d0 d1 d2 d3 r0 r1 r2 r3 r4 q0 q1 q2 q3 a b lw g
    ·exact Zy1 v0 v1 v14 v15 up d0 d1 d2 d3 r0 r1 r2 r3 r4 q0 q1 q2 q3 a b lw g
  ·have hi':i=0∨i=1:=by omega
   rcases hi' with rfl | rfl
   ·rcases hc' with rfl | rfl | rfl
    ·exact Zy2 v0 v1 v14 v15 up d0 d1 d2 d3 r0 r1 r2 r3 r4 q0 q1 q2 q3 a b lw g
    ·exact Zy3 v0 v1 v14 v15 up d0 d1 d2 d3 r0 r1 r2 r3 r4 q0 q1 q2 q3 a b lw g
    ·exact Zy4 v0 v1 v14 v15 up d0 d1 d2 d3 r0 r1 r2 r3 r4 q0 q1 q2 q3 a b lw g
   ·rcases hc' with rfl | rfl | rfl
    ·exact Zy5 v0 v1 v14 v15 up d0 d1 d2 d3 r0 r1 r2 r3 r4 q0 q1 q2 q3 a b lw g
    ·exact Zy6 v0 v1 v14 v15 up d0 d1 d2 d3 r0 r1 r2 r3 r4 q0 q1 q2 q3 a b lw g
    ·exact Zy7 v0 v1 v14 v15 up d0 d1 d2 d3 r0 r1 r2 r3 r4 q0 q1 q2 q3 a b lw g
  ·have hi':i=0:=by omega
   subst hi';rcases hc' with rfl | rfl | rfl
   ·exact Zy8 v0 v1 v14 v15 up d0 d1 d2 d3 r0 r1 r2 r3 r4 q0 q1 q2 q3 a b lw g
   ·exact Zy9 v0 v1 v14 v15 up d0 d1 d2 d3 r0 r1 r2 r3 r4 q0 q1 q2 q3 a b lw g
   ·exact ZyA v0 v1 v14 v15 up d0 d1 d2 d3 r0 r1 r2 r3 r4 q0 q1 q2 q3 a b lw g
theorem Zuk (v0 v1 v14 v15:Value) (n up:Int) (h:Hp) (g:Nat→Value):GoesE (evC (Zi prog Zh zk true) 300 false (Zmz f71) (qFr v0 v1 n up (-1) v14 v15++tl 70 g,h,[cmp false]) ⟨[],[],[]⟩) 16 70 (some (some 0))
  (qFr v0 v1 n up (-1) v14 v15) h [(decide ((-1:Int)≥0),false)]:=by unfold GoesE;kernel_rfl
theorem Z1U (v0 v1 v13 v14 v15:Value) (n up:Int) (h:Hp) (g:Nat→Value):GoesE (evC (Zi prog Zh zk true) 300 false (qRW f71) ([v0,v1,t_ 0,t_ 1,t_ 2,t_ 3,.nilIface,.int .i64 n,.int .i64 up,t_ 4,t_ 5,t_ 6,t_ 7,v13,v14,v15]++tl 70 g,h,[]) ⟨[],[],[]⟩) 16 70 none
  (qFr v0 v1 n up (i64.wrap (4-n)) v14 v15) h []:=by unfold GoesE;kernel_rfl
def upI (b:W4) (n:Int):Int:=i64.wrap (i64.wrap (n*64)-Zgh b)
def ZgB (a:W4) (up:Int):Int:=a.d.fdiv (2^min ((u64.wrap (i64.wrap (64-up))).toNat) 64)
def szI (b:W4):Int:=i64.wrap (i64.wrap (Zgh b+64)-1)
def l4 (x:W4):List Int:=[x.a,x.b,x.c,x.d]
def l5 (x:W4) (t:Int):List Int:=[x.a,x.b,x.c,x.d,t]
def okQ (x:W4):Bool×Bool:=(decide x.ok,true)
theorem Zul (a b:W4) (n:Int):GoesE (evL (Zi prog Zh zk true) 500 (Z2C f71) ([vW a,vW b]++List.replicate 84 undef,⟨0,[]⟩,[sam false,num n]) ⟨[],[],[]⟩) 16 70 none
  [vW a,vW b,t_ 0,t_ 1,t_ 2,t_ 3,.nilIface,.int .i64 n,.int .i64 (upI b n),t_ 4,t_ 5,t_ 6,t_ 7,undef,undef,undef]
  (qHp a b (Zac a (upI b n)) (l4 (Zac b (upI b n))) (l5 (Zac a (upI b n)) (ZgB a (upI b n))) [0,0,0,0])
  [(decide (u64.wrap (i64.wrap (64-upI b n))<0),false),lk a (upI b n),lk b (upI b n),okQ b,(decide ((64:Int)=0),false),(decide (i64.wrap ((szI b).tdiv 64)=n),true),okQ b,(eqW b ⟨0,0,0,0⟩,false)]:=by unfold GoesE;kernel_rfl
theorem Zum (v0 v1 v14 v15:Value) (n up i:Int) (a b lw:W4) (ds:List Int) (r0 r1 r2 r3 r4:Int) (q:W4) (g:Nat→Value):
  Zm (evC (Zi prog Zh zk true) 500 false (Z2D f71) (qFr v0 v1 n up i v14 v15++tl 70 g,qHp a b lw ds [r0,r1,r2,r3,r4] (l4 q),[]) ⟨[],[],[]⟩) 7 79 (some none)
   [v0,v1,t_ 0,t_ 1,t_ 2,t_ 3,.nilIface] ⟨9,[cW (Zfe ⟨r0,r1,r2,r3⟩ up),(vQ (l4 q),53),(vQ [r0,r1,r2,r3,r4],129),cW lw,(vQ ds,53),cW (Zfe ⟨r0,r1,r2,r3⟩ up),cW q,cW b,cW a]⟩ [lk ⟨r0,r1,r2,r3⟩ up]:=by and_intros<;>kernel_rfl
end Go.Proofs.YtekebccjflilnaaGreat
namespace Go.Proofs.YtekebccjflilnaaGreat
open Go.KRun Go.Wd
set_option maxRecDepth 100000
theorem Zar {l:List Int}(h:ZT l) (n:Nat):ZT (l.take n):=fun x hx=>h x (List.mem_of_mem_take hx)
theorem ZaI {l:List Int}(h:ZT l) (n:Nat):ZT (l.drop n):=fun x hx=>h x (List.mem_of_mem_drop hx)
theorem ZdA {l:List Int}(h:ZT l) {n:Nat}(hn:n≤l.length) {D:Int}(hD:D≤18446744073709551616^n) (hl:vB l<D):vB (l.drop n)=0:=by
 have e:=ZS (l.take n) (l.drop n);rw[List.take_append_drop,List.length_take,Nat.min_eq_left hn] at e;have b1:=Zbw _ (Zar h n);have b2:=Zbw _ (ZaI h n);have p:=Zb6 n;rcases Int.lt_or_le (vB (l.drop n)) 1 with hc | hc
 ·omega
 ·have:18446744073709551616^n*1≤18446744073709551616^n*vB (l.drop n):=Int.mul_le_mul_of_nonneg_left hc (Int.le_of_lt p);omega
theorem Zpt {n i:Nat}(hn:1≤n) (hi:n+i≤4) {ds rs qs:List Int}(ld:ds.length=4) (lr:rs.length=5) (lq:qs.length=4) (wd':ZT ds) (wr:ZT rs) (wq:ZT qs) (top:9223372036854775808≤(ds.take n).getD (n-1) 0)
  (h3:vB (rs.drop (i+1))<vB (ds.take n)) (hz:qs.take (i+1)=List.replicate (i+1) 0):
  ∃ c,c<3∧Zx (tkG n c (ds.take n) ((rs.drop i).take (n+1)))∧
   (rs.take i++(tkO n c (ds.take n) ((rs.drop i).take (n+1))++rs.drop (i+n+1))).length=5∧ZT (rs.take i++(tkO n c (ds.take n) ((rs.drop i).take (n+1))++rs.drop (i+n+1)))∧
   (qs.set i (tkD n c (ds.take n) ((rs.drop i).take (n+1)))).length=4∧ZT (qs.set i (tkD n c (ds.take n) ((rs.drop i).take (n+1))))∧
   vB ((rs.take i++(tkO n c (ds.take n) ((rs.drop i).take (n+1))++rs.drop (i+n+1))).drop i)<vB (ds.take n)∧(qs.set i (tkD n c (ds.take n) ((rs.drop i).take (n+1)))).take i=List.replicate i 0∧
   vB (rs.take i++(tkO n c (ds.take n) ((rs.drop i).take (n+1))++rs.drop (i+n+1)))+vB (qs.set i (tkD n c (ds.take n) ((rs.drop i).take (n+1))))*vB (ds.take n)=vB rs+vB qs*vB (ds.take n):=by
 have wy:=Zar wd' n;have ly:(ds.take n).length=n:=by rw[List.length_take];omega
 have lp:((rs.drop i).take (n+1)).length=n+1:=by rw[List.length_take,List.length_drop];omega
 have wp:=Zar (ZaI wr i) (n+1);have by_:=Zbw _ wy;rw[ly] at by_;have z:vB (rs.drop (i+n+1))=0:=by
  have:=ZdA (ZaI wr (i+1)) (n:=n) (by rw[List.length_drop];omega) (Int.le_of_lt by_.2) h3;rw[List.drop_drop,show i+1+n=i+n+1 from by omega] at this;exact this
 have eP:vB (rs.drop i)=vB ((rs.drop i).take (n+1)):=by
  have e:=ZS ((rs.drop i).take (n+1)) ((rs.drop i).drop (n+1));rw[List.take_append_drop,List.drop_drop,show i+(n+1)=i+n+1 from by omega,z,Int.mul_zero,Int.add_zero] at e;exact e
 have ex:∃ x,rs[i]? =some x:=⟨rs[i]'(by omega),List.getElem?_eq_getElem (by omega)⟩;obtain⟨x,hx⟩:=ex;have wx:zd x:=wr x (List.mem_of_getElem? hx);have ed:rs.drop i=x::rs.drop (i+1):=by
  have hlt:i<rs.length:=by omega
  rw[List.drop_eq_getElem_cons hlt];rw[List.getElem?_eq_getElem hlt] at hx;cases hx;rfl
 have eP2:vB (rs.drop i)=x+18446744073709551616*vB (rs.drop (i+1)):=by rw[ed];rfl
 have hlt:vB ((rs.drop i).take (n+1))<18446744073709551616*vB (ds.take n):=by
  rw[← eP,eP2];unfold zd at wx;omega
 obtain⟨k,rfl⟩:∃ k,n=k+1:=⟨n-1,by omega⟩;rw[Nat.add_sub_cancel] at top;obtain⟨c,hc,t1,t2,t3,t4,t5⟩:=Zuj ly lp wy wp top hlt;have hy0:0<vB (ds.take (k+1)):=by
  have:=Zbw _ (ZaI wr (i+1));omega
 have dm:=Int.mul_ediv_add_emod (vB ((rs.drop i).take (k+1+1))) (vB (ds.take (k+1)));have r1:=Int.emod_lt_of_pos (vB ((rs.drop i).take (k+1+1))) hy0;have hp0:=(Zbw _ wp).1;have q0:0≤vB ((rs.drop i).take (k+1+1))/vB (ds.take (k+1)):=Int.ediv_nonneg hp0 (by omega);have q9:vB ((rs.drop i).take (k+1+1))/vB (ds.take (k+1))<18446744073709551616:=Int.ediv_lt_of_lt_mul hy0 hlt;have lt:(rs.take i).length=i:=by rw[List.length_take];omega
 refine⟨c,hc,t5,?_,?_,by rw[List.length_set];exact lq,?_,?_,?_,?_⟩
 ·rw[List.length_append,List.length_append,lt,t3,List.length_drop];omega
 ·intro d hd;rcases List.mem_append.1 hd with hd | hd
  ·exact Zar wr i d hd
  ·rcases List.mem_append.1 hd with hd | hd
   ·exact t2 d hd
   ·exact ZaI wr _ d hd
 ·intro d hd;rcases List.mem_or_eq_of_mem_set hd with hd | hd
  ·exact wq d hd
  ·rw[hd,t1];exact⟨q0,q9⟩
 ·rw[List.drop_left' lt,ZS,z,t4,Int.mul_zero,Int.add_zero];exact r1
 ·have:qs.take i=List.replicate i 0:=by
   have:=congrArg (List.take i) hz;rw[List.take_take,Nat.min_eq_left (by omega),List.take_replicate,Nat.min_eq_left (by omega)] at this;exact this
  rw[List.take_set_of_le (by omega)];exact this
 ·have e1:=ZS (rs.take i) (rs.drop i);rw[List.take_append_drop,lt,eP] at e1;have e2:vB (rs.take i++(tkO (k+1) c (ds.take (k+1)) ((rs.drop i).take (k+1+1))++rs.drop (i+(k+1)+1)))=vB (rs.take i)+18446744073709551616^i*(vB ((rs.drop i).take (k+1+1)) % vB (ds.take (k+1))):=by
   rw[ZS,ZS,z,t4,Int.mul_zero,Int.add_zero,lt]
  have eq0:qs=List.replicate i 0++0::qs.drop (i+1):=by
   have:=List.take_append_drop (i+1) qs;rw[hz,List.replicate_succ',List.append_assoc] at this;exact this.symm
  have e3:vB (qs.set i (tkD (k+1) c (ds.take (k+1)) ((rs.drop i).take (k+1+1))))=vB qs+18446744073709551616^i*(vB ((rs.drop i).take (k+1+1))/vB (ds.take (k+1))):=by
   rw[t1];generalize vB ((rs.drop i).take (k+1+1))/vB (ds.take (k+1))=q;generalize qs.drop (i+1)=tt at eq0;rw[eq0,List.set_append_right _ _ (by simp),List.length_replicate,Nat.sub_self,List.set_cons_zero,ZS,ZS,List.length_replicate];simp only[vB];rw[Int.mul_add,Int.mul_add];omega
  rw[e1,e2,e3,Int.add_mul];generalize vB ((rs.drop i).take (k+1+1))/vB (ds.take (k+1))=q at*;generalize vB ((rs.drop i).take (k+1+1)) % vB (ds.take (k+1))=r at*;rw[← dm,Int.mul_add,Int.mul_assoc,Int.mul_comm q];omega
end Go.Proofs.YtekebccjflilnaaGreat
namespace Go.Proofs.YtekebccjflilnaaGreat
open Go.Proofs.Tryz
open Go.IntKind
open Go.KRun Go.Wd
set_option maxRecDepth 100000
theorem Zpu {n:Nat}(hn:1≤n) (h4:n≤4) {ds rs0:List Int}(ld:ds.length=4) (lr:rs0.length=5) (wd':ZT ds) (wr:ZT rs0) (top:9223372036854775808≤(ds.take n).getD (n-1) 0) (h3:vB (rs0.drop (5-n))<vB (ds.take n))
  (v0 v1 v14 v15:Value) (up:Int) (a b lw:W4) (g:Nat→Value) (s:List Dec):
  Runs (Zi prog Zh zk true) (.block 0 (.loop (Zmz f71))) (qFr v0 v1 n up (i64.wrap (4-(n:Int))) v14 v15++tl 70 g,qHp a b lw ds rs0 [0,0,0,0],s) fun e y=>match e with
   | none=>∃ (rs qs:List Int) (i:Int) (g:Nat→Value),y.1=qFr v0 v1 n up i v14 v15++tl 70 g∧y.2.1=qHp a b lw ds rs qs∧rs.length=5∧ZT rs∧qs.length=4∧ZT qs∧vB rs<vB (ds.take n)∧vB rs+vB qs*vB (ds.take n)=vB rs0
   | some none=>False
   | some (some _)=>False:=by
 have w0:ZT [0,0,0,0]:=fun d hd=>by
  simp only[List.mem_cons,List.not_mem_nil,or_false,or_self] at hd;rw[hd];unfold zd;omega
 refine Runs.forLoop (n:=5-n) (R:=fun _=>False) (P:=fun y=>∃ (rs qs:List Int) (i:Int) (g:Nat→Value),y.1=qFr v0 v1 n up i v14 v15++tl 70 g∧y.2.1=qHp a b lw ds rs qs∧rs.length=5∧ZT rs∧qs.length=4∧ZT qs∧vB rs<vB (ds.take n)∧vB rs+vB qs*vB (ds.take n)=vB rs0)
  (fun r y=>∃ (rs qs:List Int) (g:Nat→Value),n+r≤5∧y.1=qFr v0 v1 n up ((r:Int)-1) v14 v15++tl 70 g∧y.2.1=qHp a b lw ds rs qs∧rs.length=5∧ZT rs∧qs.length=4∧ZT qs∧vB (rs.drop r)<vB (ds.take n)∧qs.take r=List.replicate r 0∧vB rs+vB qs*vB (ds.take n)=vB rs0) ?_
  ⟨rs0,[0,0,0,0],g,by omega,by rw[ZR (by omega) (by omega),show (4:Int)-n=((5-n:Nat):Int)-1 from by omega],rfl,lr,wr,rfl,w0,h3,by
   have hn':n=1∨n=2∨n=3∨n=4:=by omega
   rcases hn' with rfl | rfl | rfl | rfl<;>rfl,by simp [vB]⟩
 rintro r ⟨t,h',s'⟩ ⟨rs,qs,g,e0,ht,hh,lr,wr,lq,wq,h3,hz,hv⟩;simp only at ht hh;subst ht hh;cases r with
 | zero=>
  refine (Zj (Zf Zch) (Zuk v0 v1 v14 v15 n up _ g).t (Zz (by rfl))).mono fun e y he=> ?_;obtain⟨rfl,⟨g',h2⟩,h3'⟩:=he;exact⟨rfl,rs,qs,_,g',h2,h3',lr,wr,lq,wq,h3,hv⟩
 | succ i=>
  obtain⟨c,hc,t1,t2,t3,t4,t5,t6,t7,t8⟩:=Zpt hn (by omega) ld lr lq wd' wr wq top h3 hz;have ei:((i+1:Nat):Int)-1=(i:Int):=by omega
  rw[ei];refine (Zj (Zf Zch) (ZyB hn (by omega) hc ld lr lq v0 v1 v14 v15 up a b lw g) t1).mono fun e y he=> ?_;obtain⟨rfl,⟨g',h2⟩,h3'⟩:=he;refine⟨i,by omega,_,_,g',by omega,?_,h3',t2,t3,t4,t5,t6,t7,by rw[t8];exact hv⟩;rw[h2,ZR (by omega) (by omega)]
theorem Zpv (j:Nat):(18446744073709551616:Int)^j=2^(64*j):=by
 rw[show (18446744073709551616:Int)=2^64 from rfl,← Int.pow_mul]
theorem Zq7 (x:W4):vB (l4 x)=x.val:=by unfold l4 W4.val;simp only[vB];omega
theorem Zpw {x:W4}(h:x.ok):ZT (l4 x):=fun d hd=>by
 obtain⟨y0,y1,y2,y3⟩:=h;unfold l4 at hd;simp only[List.mem_cons,List.not_mem_nil,or_false] at hd;rcases hd with rfl | rfl | rfl | rfl
 ·exact y0
 ·exact y1
 ·exact y2
 ·exact y3
theorem ZfQ {x:W4}(hx:x.ok) {u:Nat}(hu:u<64):(Zac x u).ok∧(Zac x u).val=x.val*2^u % 115792089237316195423570985008687907853269984665640564039457584007913129639936:=by
 have b:=W4.val_bd hx;unfold Zac;split
 ·have:u=0:=by omega
  subst this;refine⟨hx,?_⟩;rw[Int.pow_zero,Int.mul_one,Int.emod_eq_of_lt b.1 b.2]
 ·rw[if_neg (by omega),Xg];exact⟨W4.ok_of _,W4.val_of _⟩
theorem Zbx (n:Nat):(0:Int)<2^n:=Int.pow_pos (by omega)
theorem Zun {a:W4}(ha:a.ok) {u:Nat}(hu:u<64):ZgB a u=a.val*2^u/115792089237316195423570985008687907853269984665640564039457584007913129639936∧0≤ZgB a u∧ZgB a u<18446744073709551616:=by
 have e1:(u64.wrap (i64.wrap (64-(u:Int)))).toNat=64-u:=by
  rw[ZR (by omega) (by omega),ZN (by omega) (by omega)];omega
 obtain⟨h1,h2,h3,h4⟩:=ha;have ed:a.val/6277101735386680763835789423207666416102355444464034512896=a.d:=by unfold W4.val;omega
 have pp:(115792089237316195423570985008687907853269984665640564039457584007913129639936:Int)=6277101735386680763835789423207666416102355444464034512896*2^(64-u)*2^u:=by
  rw[Int.mul_assoc,← Int.pow_add,show 64-u+u=64 from by omega];rfl
 have hp:=Zbx u;have hp2:=Zbx (64-u);have key:ZgB a u=a.val*2^u/115792089237316195423570985008687907853269984665640564039457584007913129639936:=by
  unfold ZgB;rw[e1,show min (64-u) 64=64-u from by omega,Int.fdiv_eq_ediv_of_nonneg _ (by omega),pp,Int.mul_ediv_mul_of_pos_left _ _ hp,← Int.ediv_ediv_of_nonneg (by omega),ed]
 refine⟨key,?_,?_⟩
 ·unfold ZgB;rw[e1,show min (64-u) 64=64-u from by omega,Int.fdiv_eq_ediv_of_nonneg _ (by omega)];exact Int.ediv_nonneg h4.1 (by omega)
 ·unfold ZgB;rw[e1,show min (64-u) 64=64-u from by omega,Int.fdiv_eq_ediv_of_nonneg _ (by omega)];exact Int.lt_of_le_of_lt (Int.ediv_le_self _ h4.1) h4.2
def qrV (q r:W4):Value:= .tuple #[vW q,vW r,.nilIface]
theorem Zcj (k:Nat):((2^k:Nat):Int)=2^k:=by simp
theorem Zuo {b:W4}(hb:b.ok) (hz:b.val≠0):∃ n u:Nat,1≤n∧n≤4∧u<64∧upI b n=u∧i64.wrap ((szI b).tdiv 64)=n∧2^(64*n-1)≤b.val*2^u∧b.val*2^u<2^(64*n):=by
 have bd:=W4.val_bd hb;have hV:b.val.toNat≠0:=by omega
 obtain⟨s1,s2⟩:=bitLen_spec b.val.toNat;have s2:=s2 hV;have hk1:bitLen b.val.toNat≠0:=by intro h0;rw[h0] at s1;simp at s1;omega
 have hk2:bitLen b.val.toNat≤256:=by
  rcases Nat.lt_or_ge 256 (bitLen b.val.toNat) with hh | hh
  ·have h1:2^256≤2^(bitLen b.val.toNat-1):=Nat.pow_le_pow_right (by omega) (by omega);have h2:(2:Nat)^256=115792089237316195423570985008687907853269984665640564039457584007913129639936:=rfl;rw[h2] at h1;omega
  ·exact hh
 have lo:(2:Int)^(bitLen b.val.toNat-1)≤b.val:=by rw[← Zcj];omega
 have hi:b.val<(2:Int)^bitLen b.val.toNat:=by rw[← Zcj];omega
 unfold upI szI Zgh;generalize bitLen b.val.toNat=k at*;have hn:(k+63)/64*64≥k∧(k+63)/64*64<k+64:=by omega
 refine⟨(k+63)/64,(k+63)/64*64-k,by omega,by omega,by omega,?_,?_,?_,?_⟩
 ·rw[ZR (n:=((((k+63)/64:Nat):Int))*64) (by omega) (by omega),ZR (by omega) (by omega)];omega
 ·rw[ZR (n:=(k:Int)+64) (by omega) (by omega),ZR (n:=(k:Int)+64-1) (by omega) (by omega),Int.tdiv_eq_ediv_of_nonneg (by omega),ZR (by omega) (by omega)];omega
 ·rw[show 64*((k+63)/64)-1=(k-1)+((k+63)/64*64-k) from by omega,Int.pow_add];exact Int.mul_le_mul_of_nonneg_right lo (Int.le_of_lt (Zbx _))
 ·have e:64*((k+63)/64)=k+((k+63)/64*64-k):=by omega
  rw[e,Int.pow_add];exact Int.mul_lt_mul_of_pos_right hi (Zbx _)
theorem ZfR {i j:Nat}(h:i≤j):(2:Int)^i≤2^j:=by
 rw[← Zcj,← Zcj];have:=Nat.pow_le_pow_right (n:=2) (by omega) h;omega
theorem Zq8 (x:W4) (t:Int):vB (l5 x t)=x.val+115792089237316195423570985008687907853269984665640564039457584007913129639936*t:=by unfold l5 W4.val;simp only[vB];omega
theorem Zpx {x:W4}(h:x.ok) {t:Int}(ht:0≤t∧t<18446744073709551616):ZT (l5 x t):=fun d hd=>by
 obtain⟨y0,y1,y2,y3⟩:=h;unfold l5 at hd;simp only[List.mem_cons,List.not_mem_nil,or_false] at hd;rcases hd with rfl | rfl | rfl | rfl | rfl
 ·exact y0
 ·exact y1
 ·exact y2
 ·exact y3
 ·exact ht
theorem Zpy {l:List Int}{n:Nat}(hn:1≤n) (hl:l.length=n) (hw:ZT l) (h:2^(64*n-1)≤vB l):9223372036854775808≤l.getD (n-1) 0:=by
 obtain⟨k,rfl⟩:∃ k,n=k+1:=⟨n-1,by omega⟩;obtain⟨d0,dt,e,l0⟩:=Zfd hl;have b0:=Zbw d0 (fun x hx=>hw x (by rw[e];exact List.mem_append_left _ hx));rw[l0] at b0;rw[Nat.add_sub_cancel,e,Zci d0 dt [] l0];rw[e,ZS,l0,show 64*(k+1)-1=64*k+63 from by omega,Int.pow_add,← Zpv] at h;simp only[vB] at h;rw[Int.mul_zero,Int.add_zero,show (2:Int)^63=9223372036854775808 from rfl] at h;rcases Int.lt_or_le dt 9223372036854775808 with hc | hc
 ·exfalso
  have h1:18446744073709551616^k*dt≤18446744073709551616^k*9223372036854775807:=Int.mul_le_mul_of_nonneg_left (by omega) (Int.le_of_lt (Zb6 k));generalize (18446744073709551616:Int)^k=K at*;omega
 ·exact hc
theorem ZfS (a b:W4) (ha:a.ok) (hb:b.ok) (hz:b.val≠0) (w:World):Calls prog 71 #[vW a,vW b] w fun e w'=>e= .returned (qrV (W4.of (a.val/b.val)) (W4.of (a.val % b.val)))∧zg w w':=by
 obtain⟨n,u,n1,n4,hu,eu,en,dlo,dhi⟩:=Zuo hb hz;have ba:=W4.val_bd ha;have bb:=W4.val_bd hb;have hp:=Zbx u;have p256':(2:Int)^256=115792089237316195423570985008687907853269984665640564039457584007913129639936:=rfl;have h256:b.val*2^u<115792089237316195423570985008687907853269984665640564039457584007913129639936:=by
  have:=ZfR (show 64*n≤256 by omega);rw[p256'] at this;omega
 have hD0:0<b.val*2^u:=Int.mul_pos (by omega) hp;obtain⟨ob,vb⟩:=ZfQ hb hu;rw[Int.emod_eq_of_lt (by omega) h256] at vb;obtain⟨oa,va⟩:=ZfQ ha hu;obtain⟨tp,t0,t9⟩:=Zun ha hu;have hA:vB (l5 (Zac a u) (ZgB a u))=a.val*2^u:=by
  rw[Zq8,va,tp];have:=Int.mul_ediv_add_emod (a.val*2^u) 115792089237316195423570985008687907853269984665640564039457584007913129639936;omega
 have wds:=Zpw ob;have vds:vB (l4 (Zac b u))=b.val*2^u:=by rw[Zq7];exact vb
 have lds:(l4 (Zac b u)).length=4:=rfl;have hdn:vB ((l4 (Zac b u)).take n)=b.val*2^u:=by
  have z:=ZdA wds (n:=n) (by rw[lds];exact n4) (Int.le_refl _) (by rw[vds,Zpv];exact dhi);have e:=ZS ((l4 (Zac b u)).take n) ((l4 (Zac b u)).drop n);rw[List.take_append_drop,z,vds,Int.mul_zero,Int.add_zero] at e;exact e.symm
 have ltn:((l4 (Zac b u)).take n).length=n:=by rw[List.length_take,lds];omega
 have top:=Zpy n1 ltn (Zar wds n) (by rw[hdn];exact dlo);have wrs:=Zpx oa ⟨t0,t9⟩;have lrs:(l5 (Zac a u) (ZgB a u)).length=5:=rfl;have h3:vB ((l5 (Zac a u) (ZgB a u)).drop (5-n))<vB ((l4 (Zac b u)).take n):=by
  rw[hdn];refine Int.lt_of_lt_of_le ?_ dlo;have e:=ZS ((l5 (Zac a u) (ZgB a u)).take (5-n)) ((l5 (Zac a u) (ZgB a u)).drop (5-n));rw[List.take_append_drop,hA,List.length_take,lrs,show min (5-n) 5=5-n from by omega] at e;have b0:=(Zbw _ (Zar wrs (5-n))).1;have big:a.val*2^u<2^(256+63):=by
   have h1:a.val*2^u<2^256*2^u:=Int.mul_lt_mul_of_pos_right (by rw[p256'];exact ba.2) hp;rw[← Int.pow_add] at h1;have:=ZfR (show 256+u≤256+63 by omega);omega
  rcases Int.lt_or_le (vB ((l5 (Zac a u) (ZgB a u)).drop (5-n))) (2^(64*n-1)) with hc | hc
  ·exact hc
  ·exfalso
   have h1:18446744073709551616^(5-n)*2^(64*n-1)≤18446744073709551616^(5-n)*vB ((l5 (Zac a u) (ZgB a u)).drop (5-n)):=Int.mul_le_mul_of_nonneg_left hc (Int.le_of_lt (Zb6 _));rw[Zpv,← Int.pow_add,show 64*(5-n)+(64*n-1)=256+63 from by omega,← Zpv] at h1;omega
 have pre:=Zul a b n;rw[eu] at pre;refine ZaU (T:=(Zi prog Zh zk true)) func71 Zpr (vals:=[vW a,vW b]) (by rfl) (by rfl) (zl (Zf Zch) pre.t
  (Za (Xb (by rw[ZR (by omega) (by omega),ZN (by omega) (by omega)];omega)) (Za (Zgf ha (by omega) (by omega)) (Za (Zgf hb (by omega) (by omega)) (Za (Xa hb) (Za (by rfl) (Za (Xa en) (Za (Xa hb) (Zz (by
   show eqW b ⟨0,0,0,0⟩=false;cases h:eqW b ⟨0,0,0,0⟩
   ·rfl
   ·rw[Zbi.1 h] at hz;exact absurd rfl hz))))))))) fun g=> ?_) w
 refine Runs.seq (P1:=fun e y=>e=none∧∃ (rs qs:List Int) (i:Int) (g:Nat→Value),y.1=qFr (vW a) (vW b) n u i undef undef++tl 70 g∧y.2.1=qHp a b (Zac a u) (l4 (Zac b u)) rs qs∧rs.length=5∧ZT rs∧qs.length=4∧ZT qs∧vB rs<b.val*2^u∧vB rs+vB qs*(b.val*2^u)=a.val*2^u) ?_ ?_ (fun e y he=>by cases he.1)
 ·refine Runs.seq (Zj (Zf Zch) (Z1U (vW a) (vW b) undef undef undef n u _ g).t Zne) ?_ (fun e y he=>by cases he.1);rintro⟨t,h',s⟩ ⟨_,⟨g',ht⟩,hh⟩;simp only at ht hh;subst ht hh;refine (Zpu n1 n4 lds lrs wds wrs top h3 (vW a) (vW b) undef undef u a b (Zac a u) g' s).mono fun e y he=> ?_;rw[hdn,hA] at he
  match e,he with
  | none,he=>exact⟨rfl,he⟩
 ·rintro⟨t,h',s⟩ ⟨_,rs,qs,i,g',ht,hh,lr,wr,lq,wq,hlt,hv⟩;simp only at ht hh;subst ht hh;have hr0:=(Zbw _ wr).1;have r4z:vB (rs.drop 4)=0:=ZdA wr (n:=4) (by omega) (by show (115792089237316195423570985008687907853269984665640564039457584007913129639936:Int)≤18446744073709551616^4;decide) (by omega)
  match rs,lr,qs,lq,wr,wq,hr0,r4z,hlt,hv with
  | [r0,r1,r2,r3,r4],_,[q0,q1,q2,q3],_,wr,wq,hr0,r4z,hlt,hv=>
   have okQ':(⟨q0,q1,q2,q3⟩:W4).ok:=⟨wq q0 (by simp),wq q1 (by simp),wq q2 (by simp),wq q3 (by simp)⟩;have okR:(⟨r0,r1,r2,r3⟩:W4).ok:=⟨wr r0 (by simp),wr r1 (by simp),wr r2 (by simp),wr r3 (by simp)⟩;have vq:vB [q0,q1,q2,q3]=(⟨q0,q1,q2,q3⟩:W4).val:=Zq7 ⟨q0,q1,q2,q3⟩;have e4:r4=0:=by
    simp only[List.drop_succ_cons,List.drop_zero,vB] at r4z;omega
   have vr:vB [r0,r1,r2,r3,r4]=(⟨r0,r1,r2,r3⟩:W4).val:=by
    have:=Zq8 ⟨r0,r1,r2,r3⟩ r4;rw[e4,Int.mul_zero,Int.add_zero] at this;rw[e4];exact this
   rw[vq] at hv;rw[vr] at hv hlt hr0;have eA:a.val*2^u=b.val*2^u*(⟨q0,q1,q2,q3⟩:W4).val+(⟨r0,r1,r2,r3⟩:W4).val:=by rw[Int.mul_comm (b.val*2^u)];omega
   have eq:a.val/b.val=(⟨q0,q1,q2,q3⟩:W4).val:=by
    rw[← Int.mul_ediv_mul_of_pos_left a.val b.val hp];exact Zgc eA hr0 hlt
   have er:(⟨r0,r1,r2,r3⟩:W4).val=a.val % b.val*2^u:=by
    have dm:=Int.mul_ediv_add_emod a.val b.val;rw[eq] at dm;have:a.val*2^u=b.val*2^u*(⟨q0,q1,q2,q3⟩:W4).val+a.val % b.val*2^u:=by
     rw[Int.mul_right_comm,← Int.add_mul,dm]
    omega
   have es:Zfe ⟨r0,r1,r2,r3⟩ u=W4.of (a.val % b.val):=by
    unfold Zfe;split
    ·have:u=0:=by omega
     subst this;rw[Int.pow_zero,Int.mul_one] at er;rw[← er,W4.of_val okR]
    ·rw[if_neg (by omega),Xg,er,Int.mul_ediv_cancel _ (by omega)]
   refine (Zj (Zf Zch) (Zum (vW a) (vW b) undef undef n u i a b (Zac a u) (l4 (Zac b u)) r0 r1 r2 r3 r4 ⟨q0,q1,q2,q3⟩ g') (Zz (Zgf okR (by omega) (by omega)))).mono fun e y he=> ?_;obtain⟨rfl,⟨g2,h2⟩,h3'⟩:=he;refine⟨.inr rfl,?_⟩;rw[h2,h3',es,eq,W4.of_val okQ'];rfl
end Go.Proofs.YtekebccjflilnaaGreat
namespace Go.Proofs.YtekebccjflilnaaGreat
open Go.KRun Go.Wd
set_option maxRecDepth 100000
def nz2 (a b:W4):Bool×Bool:=(decide (a.ok∧b.ok∧b.val≠0),true)
def gQR:Ans:=fun vals s=>
 match vals with
 | [x,y]=>
  match w4 x,w4 y with
  | some a,some b=>some (qrV (W4.of (a.val/b.val)) (W4.of (a.val % b.val)),s,[nz2 a b])
  | _,_=>none
 | _=>none
theorem ZyC:ZJ 71 gQR:=by
 intro vals s v s' lg h hl w;unfold gQR at h;split at h
 ·split at h
  ·rename_i a b ha hb;cases h;have h1:=hl _ Xf;simp only[nz2,Xi] at h1;rw[ZbG ha,ZbG hb];exact ZfS a b h1.1 h1.2.1 h1.2.2 w
  ·cases h
 ·cases h
end Go.Proofs.YtekebccjflilnaaGreat
namespace Go.Proofs.YtekebccjflilnaaGreat
open Go.Proofs.Tryz
open Go.KRun Go.Wd Go.Pt Go.Rn
set_option maxRecDepth 100000
def Zup:Con:=alt 72 (g1n (Za3 Zgd)) (alt 71 gQR ZnK)
theorem ZhT:ConOk Zup:=Zy func72 rfl (zN Zbm) (Zy func71 rfl ZyC ZeK)
end Go.Proofs.YtekebccjflilnaaGreat
