/-
  Con1, Num2, Okl, Con2, Con3, NumZ, NumU, NumY, NumX4, RnA
-/
import Derived.Test.YtekebccjflilnaaGreatG04
import GoSem.Core.Sem
import Derived.Laws.MathBits
namespace Go.Proofs.YtekebccjflilnaaGreat
open Go.Proofs.Tryz
open Go.KRun Go.Wd
def vW (x:W4):Value:= .agg #[.int .u64 x.a,.int .u64 x.b,.int .u64 x.c,.int .u64 x.d]
def w4:Value→Option W4
 | .agg cs=>
  match cs.toList with
  | [.int .u64 a,.int .u64 b,.int .u64 c,.int .u64 d]=>some ⟨a,b,c,d⟩
  | _=>none
 | _=>none
theorem ZbG {v:Value}{x:W4}(h:w4 v=some x):v=vW x:=by
 unfold w4 at h;split at h
 ·rename_i cs;split at h
  ·rename_i a b c d hc;cases h;obtain⟨l⟩:=cs;simp only at hc;subst hc;rfl
  ·cases h
 ·cases h
def g2 (k:W4→W4→List Dec→Option (Value×List Dec×Log)):Ans:=fun vals s=>
 match vals with
 | [x,y]=>
  match w4 x,w4 y with
  | some a,some b=>
   match k a b s with
   | some r=>some (r.1,r.2.1,(decide (a.ok∧b.ok),true)::r.2.2)
   | none=>none
  | _,_=>none
 | _=>none
theorem ZuW {f:Nat}{k:W4→W4→List Dec→Option (Value×List Dec×Log)}
  (hk:∀ x y:W4,x.ok→y.ok→∀ s v s' lg,k x y s=some (v,s',lg)→Zx lg→∀ w,Calls prog f #[vW x,vW y] w fun e w'=>e= .returned v∧zg w w'):ZJ f (g2 k):=by
 intro vals s v s' lg h hl w;unfold g2 at h;split at h
 ·split at h
  ·rename_i a b ha hb;split at h
   ·rename_i r hr;cases h;have h1:=hl _ (Xe);simp only[Xi] at h1;rw[ZbG ha,ZbG hb];exact hk a b h1.1 h1.2 s r.1 r.2.1 r.2.2 hr (fun p hp=>hl p (Xd _ hp)) w
   ·cases h
  ·cases h
 ·cases h
def Zdo (k:W4→W4→Value):W4→W4→List Dec→Option (Value×List Dec×Log):=fun x y s=>some (k x y,s,[])
theorem Zbk {f:Nat}{k:W4→W4→Value}(hk:∀ x y:W4,x.ok→y.ok→∀ w,Calls prog f #[vW x,vW y] w fun e w'=>e= .returned (k x y)∧zg w w'):ZJ f (g2 (Zdo k)):=
 ZuW fun x y hx hy s v s' lg h _ w=>by
  unfold Zdo at h;cases h;exact hk x y hx hy w
def Zii (n:Int):List Dec→Int×List Dec×Log
 | .inr (.inl k)::s=>(k,s,[(decide (n=k),true)])
 | s=>(n,s,[])
theorem Znd {n:Int}{s:List Dec}(h:Zx (Zii n s).2.2):(Zii n s).1=n:=by
 unfold Zii at*;split at h
 ·rename_i d s;have:=h _ Xf;simp only[Xi] at this;exact this.symm
 ·rfl
theorem Zne:Zx []:=fun _ h=>by cases h
def okA (x y c:Int):Bool×Bool:=(decide (0≤x∧0≤y∧0≤c∧c≤1),true)
theorem Znf (x y:W4):Zw (Ze (Zi prog Zh Zo true) 3000 104 [vW x,vW y] []) (.tuple #[vW (Zzw x y),.bool (Zzx x y !=0)])
  [okA x.d y.d (ca x.c y.c (ca x.b y.b (ca x.a y.a 0))),okA x.c y.c (ca x.b y.b (ca x.a y.a 0)),okA x.b y.b (ca x.a y.a 0),okA x.a y.a 0]:=by and_intros<;>kernel_rfl
def Zrg (x y:W4):Value:= .tuple #[vW (W4.of (x.val+y.val)),.bool (decide (115792089237316195423570985008687907853269984665640564039457584007913129639936≤x.val+y.val))]
theorem Zft (x y:W4) (hx:x.ok) (hy:y.ok) (w:World):Calls prog 104 #[vW x,vW y] w fun e w'=>e= .returned (Zrg x y)∧zg w w':=by
 have h:=Zb (Zf Zd) (Znf x y) (by
  obtain⟨h1,h2,h3,h4⟩:=hx;obtain⟨k1,k2,k3,k4⟩:=hy;have b1:0≤ca x.a y.a 0∧ca x.a y.a 0≤1:=by unfold ca;omega
  have b2:0≤ca x.b y.b (ca x.a y.a 0)∧ca x.b y.b (ca x.a y.a 0)≤1:=by generalize ca x.a y.a 0=k at*;unfold ca;omega
  have b3:0≤ca x.c y.c (ca x.b y.b (ca x.a y.a 0))∧ca x.c y.c (ca x.b y.b (ca x.a y.a 0))≤1:=by generalize ca x.b y.b (ca x.a y.a 0)=k at*;unfold ca;omega
  intro p hp;simp only[List.mem_cons,List.not_mem_nil,or_false] at hp;rcases hp with rfl | rfl | rfl | rfl<;>simp only[okA,Xi]<;>omega) (by rfl) (by rfl) w
 rw[Zrb hx hy,Zrc hx hy] at h;exact h
def okS (x y c:Int):Bool×Bool:=(decide (0≤x∧0≤y∧y<18446744073709551616∧0≤c∧c≤1),true)
theorem Zng (x y:W4):Zw (Ze (Zi prog Zh Zo true) 3000 105 [vW x,vW y] []) (.tuple #[vW (Zzy x y),.bool (Zzz x y !=0)])
  [okS x.d y.d (bo x.c y.c (bo x.b y.b (bo x.a y.a 0))),okS x.c y.c (bo x.b y.b (bo x.a y.a 0)),okS x.b y.b (bo x.a y.a 0),okS x.a y.a 0]:=by and_intros<;>kernel_rfl
def Zrh (x y:W4):Value:= .tuple #[vW (W4.of (x.val-y.val)),.bool (decide (x.val<y.val))]
theorem Zfu (x y:W4) (hx:x.ok) (hy:y.ok) (w:World):Calls prog 105 #[vW x,vW y] w fun e w'=>e= .returned (Zrh x y)∧zg w w':=by
 have h:=Zb (Zf Zd) (Zng x y) (by
  obtain⟨h1,h2,h3,h4⟩:=hx;obtain⟨k1,k2,k3,k4⟩:=hy;have b1:=Zrd x.a y.a 0;have b2:=Zrd x.b y.b (bo x.a y.a 0);have b3:=Zrd x.c y.c (bo x.b y.b (bo x.a y.a 0));intro p hp;simp only[List.mem_cons,List.not_mem_nil,or_false] at hp;rcases hp with rfl | rfl | rfl | rfl<;>simp only[okS,Xi]<;>omega) (by rfl) (by rfl) w
 rw[Zre hx hy,Zrf hx hy] at h;exact h
def ZyO:Con:=alt 105 (g2 (Zdo Zrh)) Zo
theorem Zgb:ConOk ZyO:=Zy func105 rfl (Zbk Zfu) Zd
theorem Znh (x y:W4):Zw (Ze (Zi prog Zh ZyO true) 3000 88 [vW x,vW y] [tst true]) (.int .i64 0) [(eqW x y,true)]:=by and_intros<;>kernel_rfl
theorem Zni (x y:W4):Zw (Ze (Zi prog Zh ZyO true) 3000 88 [vW x,vW y] [tst false,tst true]) (.int .i64 (-1)) [(decide (x.val<y.val),true),(decide (x.ok∧y.ok),true),(eqW x y,false)]:=by and_intros<;>kernel_rfl
theorem Znj (x y:W4):Zw (Ze (Zi prog Zh ZyO true) 3000 88 [vW x,vW y] [tst false,tst false]) (.int .i64 1) [(decide (x.val<y.val),false),(decide (x.ok∧y.ok),true),(eqW x y,false)]:=by and_intros<;>kernel_rfl
def Zdp (x y:W4):Int:=if x.val<y.val then -1 else if x.val=y.val then 0 else 1
def Znk (x y:W4):Value:= .int .i64 (Zdp x y)
theorem ZjS (x y:W4) (hx:x.ok) (hy:y.ok) (w:World):Calls prog 88 #[vW x,vW y] w fun e w'=>e= .returned (Znk x y)∧zg w w':=by
 by_cases he:x=y
 ·subst he;have h:=Zb (Zf Zgb) (Znh x x) (by
   intro p hp;simp only[List.mem_cons,List.not_mem_nil,or_false] at hp;subst hp;exact Zbi.2 rfl) (by rfl) (by rfl) w
  have e:Zdp x x=0:=by unfold Zdp;rw[if_neg (by omega),if_pos rfl]
  unfold Znk;rw[e];exact h
 ·have hne:eqW x y=false:=by
   cases h:eqW x y
   ·rfl
   ·exact absurd (Zbi.1 h) he
  by_cases hl:x.val<y.val
  ·have h:=Zb (Zf Zgb) (Zni x y) (by
    intro p hp;simp only[List.mem_cons,List.not_mem_nil,or_false] at hp;rcases hp with rfl | rfl | rfl
    ·simpa using hl
    ·simpa using ⟨hx,hy⟩
    ·exact hne) (by rfl) (by rfl) w
   have e:Zdp x y= -1:=by unfold Zdp;rw[if_pos hl]
   unfold Znk;rw[e];exact h
  ·have h:=Zb (Zf Zgb) (Znj x y) (by
    intro p hp;simp only[List.mem_cons,List.not_mem_nil,or_false] at hp;rcases hp with rfl | rfl | rfl
    ·simpa using hl
    ·simpa using ⟨hx,hy⟩
    ·exact hne) (by rfl) (by rfl) w
   have hne':x.val≠y.val:=fun h=>he (W4.val_inj hx hy h);have e:Zdp x y=1:=by unfold Zdp;rw[if_neg hl,if_neg hne']
   unfold Znk;rw[e];exact h
def Zz0:W4→W4→List Dec→Option (Value×List Dec×Log):=fun x y s=>some (.int .i64 (Zii (Zdp x y) s).1,(Zii (Zdp x y) s).2.1,(Zii (Zdp x y) s).2.2)
theorem Zri:ZJ 88 (g2 Zz0):=ZuW fun x y hx hy s v s' lg h hl w=>by
 unfold Zz0 at h;cases h;rw[Znd hl];exact ZjS x y hx hy w
end Go.Proofs.YtekebccjflilnaaGreat
namespace Go.Wd
open Go.IntKind
theorem ZK (n:Int):u64.wrap n=n % 18446744073709551616:=by simp [IntKind.wrap,IntKind.bits,IntKind.signed]
theorem ZN {n:Int}(h0:0≤n) (h1:n<18446744073709551616):u64.wrap n=n:=by rw[ZK];omega
theorem ZR {n:Int}(h0: -9223372036854775808≤n) (h1:n≤9223372036854775807):i64.wrap n=n:=by
 simp [IntKind.wrap,IntKind.bits,IntKind.signed];omega
def prt (n:Int):Int:=u64.wrap (n.tmod 64)
def rem (n:Int):Int:=u64.wrap (64-prt n)
def up (a n:Int):Int:=u64.wrap (a*2^min (prt n).toNat 64)
def dn (a n:Int):Int:=a.fdiv (2^min (rem n).toNat 64)
def dn' (a n:Int):Int:=a.fdiv (2^min (prt n).toNat 64)
def up' (a n:Int):Int:=u64.wrap (a*2^min (rem n).toNat 64)
def orr (x y:Int):Int:=u64.wrap ((BitVec.ofInt 64 x ||| BitVec.ofInt 64 y).toNat:Nat)
theorem ZjT {n:Int}(h:0≤n):prt n=n % 64:=by
 unfold prt;rw[Int.tmod_eq_emod_of_nonneg h,ZK];omega
theorem ZpI {n:Int}(h:0≤n):rem n=64-n % 64:=by
 unfold rem;rw[ZjT h,ZK];omega
structure Parts (n q r:Int):Prop where
 q1:1≤q
 r1:1<r
 qr:q*r=18446744073709551616
 eq:q=2^(n % 64).toNat
 er:r=2^(64-n % 64).toNat
theorem zb (n:Int):Parts n (2^(n % 64).toNat) (2^(64-n % 64).toNat):=by
 have h1:0≤n % 64:=by omega
 have h2:n % 64<64:=by omega
 refine⟨?_,?_,?_,rfl,rfl⟩
 ·have:(0:Int)<2^(n % 64).toNat:=Int.pow_pos (by omega);omega
 ·obtain⟨k,hk⟩:∃ k,(64-n % 64).toNat=k+1:=⟨(64-n % 64).toNat-1,by omega⟩;rw[hk,Int.pow_succ];have:(0:Int)<2^k:=Int.pow_pos (by omega);omega
 ·rw[← Int.pow_add];have:(n % 64).toNat+(64-n % 64).toNat=64:=by omega
  rw[this];rfl
theorem ZjU {n:Int}(h:0≤n):min (prt n).toNat 64=(n % 64).toNat:=by rw[ZjT h];omega
theorem ZjV {n:Int}(h:0≤n):min (rem n).toNat 64=(64-n % 64).toNat:=by rw[ZpI h];omega
structure Cut (a q r hi lo:Int):Prop where
 sum:a=r*hi+lo
 lo0:0≤lo
 lo1:lo<r
 hi0:0≤hi
 hi1:hi<q
theorem cut {a n q r:Int}(P:Parts n q r) (h0:0≤a) (h1:a<18446744073709551616):Cut a q r (a/r) (a % r):=by
 have hr:0<r:=by have:=P.r1;omega
 refine⟨(Int.mul_ediv_add_emod a r).symm,Int.emod_nonneg _ (by omega),Int.emod_lt_of_pos _ hr,Int.ediv_nonneg h0 (by omega),?_⟩;apply Int.ediv_lt_of_lt_mul hr;rw[P.qr];exact h1
theorem ZbU (x y c:Int) (hc:0≤c) (h:x≤y):c*x≤c*y:=Int.mul_le_mul_of_nonneg_left h hc
theorem ZuX {a n q r hi lo:Int}(hn:0≤n) (P:Parts n q r) (C:Cut a q r hi lo):up a n=q*lo∧0≤q*lo∧q*lo+q≤18446744073709551616∧a*q=18446744073709551616*hi+q*lo:=by
 have e:a*q=18446744073709551616*hi+q*lo:=by
  rw[C.sum,Int.add_mul,← P.qr,Int.mul_comm r hi,Int.mul_assoc hi r q,Int.mul_comm r q,Int.mul_comm hi (q*r),Int.mul_comm lo q]
 have b0:0≤q*lo:=Int.mul_nonneg (by have:=P.q1;omega) C.lo0;have b1:q*lo+q≤18446744073709551616:=by
  have h:=ZbU (lo+1) r q (by have:=P.q1;omega) (by have:=C.lo1;omega);rw[P.qr,Int.mul_add,Int.mul_one] at h;exact h
 refine⟨?_,b0,b1,e⟩;unfold up;rw[ZjU hn,← P.eq,ZK,e];have:=P.q1;omega
theorem Zz1 {a n q r hi lo:Int}(hn:0≤n) (P:Parts n q r) (C:Cut a q r hi lo):dn a n=hi:=by
 unfold dn;rw[ZjV hn,← P.er,Int.fdiv_eq_ediv_of_nonneg _ (by have:=P.r1;omega),C.sum,Int.mul_comm r hi,Int.add_comm,Int.add_mul_ediv_right _ _ (by have:=P.r1;omega),
  Int.ediv_eq_zero_of_lt C.lo0 C.lo1,Int.zero_add]
theorem ZpJ {k:Nat}{x y:Int}(hx:∃ z:Int,x=2^k*z) (x0:0≤x) (y0:0≤y) (y1:y<2^k) (hs:x+y<18446744073709551616):orr x y=x+y:=by
 obtain⟨z,hz⟩:=hx;have hp:(0:Int)<2^k:=Int.pow_pos (by omega);have z0:0≤z:=by
  rcases Int.lt_or_le z 0 with h | h
  ·have:=ZbU z (-1) (2^k) (by omega) (by omega);omega
  ·exact h
 obtain⟨Z,rfl⟩:=Int.eq_ofNat_of_zero_le z0;obtain⟨Y,rfl⟩:=Int.eq_ofNat_of_zero_le y0;have ex:x=((2^k*Z:Nat):Int):=by rw[hz];simp
 have hY:Y<2^k:=by
  have:((Y:Nat):Int)<((2^k:Nat):Int):=by simpa using y1
  exact Int.ofNat_lt.1 this
 have hX:2^k*Z+Y<18446744073709551616:=by
  rw[ex] at hs;have:(((2^k*Z+Y:Nat)):Int)<18446744073709551616:=by simpa using hs
  omega
 unfold orr;rw[ex];have e1:∀ m:Nat,m<18446744073709551616→(BitVec.ofInt 64 (m:Int)).toNat=m:=fun m hm=>by
  simp;omega
 rw[BitVec.toNat_or,e1 _ (by omega),e1 _ (by omega),← Nat.two_pow_add_eq_or_of_lt hY,ZK];have:(((2^k*Z+Y:Nat)):Int)=((2^k*Z:Nat):Int)+(Y:Int):=by simp
 rw[this];omega
theorem W4.of_eq {x:W4}{N k:Int}(hx:x.ok) (h:N=x.val+115792089237316195423570985008687907853269984665640564039457584007913129639936*k):W4.of N=x:=by
 obtain⟨a,b,c,d⟩:=x;unfold W4.ok at hx;unfold W4.val at h;unfold W4.of;dsimp only at*;subst h;refine W4.ext' ?_ ?_ ?_ ?_<;>dsimp only<;>omega
def ZuY (x:W4) (n:Int):W4:=⟨up x.a n,orr (up x.b n) (dn x.a n),orr (up x.c n) (dn x.b n),orr (up x.d n) (dn x.c n)⟩
def ZuZ (x:W4) (n:Int):W4:=⟨0,up x.a n,orr (up x.b n) (dn x.a n),orr (up x.c n) (dn x.b n)⟩
def Zva (x:W4) (n:Int):W4:=⟨0,0,up x.a n,orr (up x.b n) (dn x.a n)⟩
def Zvb (x:W4) (n:Int):W4:=⟨0,0,0,up x.a n⟩
theorem Zbl {n:Int}(hn:0≤n) {a b:Int}(ha:0≤a∧a<18446744073709551616) (hb:0≤b∧b<18446744073709551616):
  orr (up b n) (dn a n)=up b n+dn a n∧(0≤up a n∧up a n<18446744073709551616)∧(0≤up b n+dn a n∧up b n+dn a n<18446744073709551616)∧
   a*2^(n % 64).toNat=18446744073709551616*dn a n+up a n:=by
 have P:=zb n;have Ca:=cut P ha.1 ha.2;have Cb:=cut P hb.1 hb.2;obtain⟨e1,b1,b2,b3⟩:=ZuX hn P Ca;obtain⟨f1,c1,c2,c3⟩:=ZuX hn P Cb;have e2:=Zz1 hn P Ca;have q1:=P.q1;have h0:=Ca.hi0;have h1:=Ca.hi1;refine⟨?_,⟨by omega,by omega⟩,⟨by omega,by omega⟩,by rw[e1,e2];exact b3⟩;rw[f1,e2];exact ZpJ (k:=(n % 64).toNat) ⟨_,rfl⟩ c1 h0 h1 (by omega)
theorem z64:(0:Int)≤0∧(0:Int)<18446744073709551616:=⟨by omega,by omega⟩
theorem Zah (n:Int) (h0:0≤n) (j:Nat) (hj:n/64=j):(2:Int)^n.toNat=2^(64*j)*2^(n % 64).toNat:=by
 rw[← Int.pow_add];congr 1;omega
theorem ZaP (x:W4) (q:Int):x.val*q=x.a*q+18446744073709551616*(x.b*q)+340282366920938463463374607431768211456*(x.c*q)+6277101735386680763835789423207666416102355444464034512896*(x.d*q):=by
 unfold W4.val;rw[Int.add_mul,Int.add_mul,Int.add_mul,Int.mul_assoc,Int.mul_assoc,Int.mul_assoc]
theorem Zrj {x:W4}(hx:x.ok) {n:Int}(hn:0≤n) (hj:n/64=0):ZuY x n=W4.of (x.val*2^n.toNat):=by
 obtain⟨h1,h2,h3,h4⟩:=hx;obtain⟨o1,u1,s1,m1⟩:=Zbl hn h1 h2;obtain⟨o2,u2,s2,m2⟩:=Zbl hn h2 h3;obtain⟨o3,u3,s3,m3⟩:=Zbl hn h3 h4;obtain⟨_,u4,_,m4⟩:=Zbl hn h4 h1;have e:=Zah n hn 0 hj;have one:(2:Int)^(64*0)=1:=rfl;rw[one,Int.one_mul] at e;refine (W4.of_eq (x:=ZuY x n) (k:=dn x.d n) ?_ ?_).symm
 ·unfold ZuY;rw[o1,o2,o3];exact⟨u1,s1,s2,s3⟩
 ·rw[e,ZaP,m1,m2,m3,m4];unfold ZuY W4.val;dsimp only;rw[o1,o2,o3];omega
theorem Zrk {x:W4}(hx:x.ok) {n:Int}(hn:0≤n) (hj:n/64=1):ZuZ x n=W4.of (x.val*2^n.toNat):=by
 obtain⟨h1,h2,h3,h4⟩:=hx;obtain⟨o1,u1,s1,m1⟩:=Zbl hn h1 h2;obtain⟨o2,u2,s2,m2⟩:=Zbl hn h2 h3;obtain⟨_,u3,_,m3⟩:=Zbl hn h3 h4;obtain⟨_,u4,_,m4⟩:=Zbl hn h4 h1;have e:=Zah n hn 1 hj;have one:(2:Int)^(64*1)=18446744073709551616:=rfl;rw[one] at e;refine (W4.of_eq (x:=ZuZ x n) (k:=dn x.c n+(18446744073709551616*dn x.d n+up x.d n)) ?_ ?_).symm
 ·unfold ZuZ;rw[o1,o2];exact⟨z64,u1,s1,s2⟩
 ·rw[e,Int.mul_left_comm,ZaP,m1,m2,m3,m4];unfold ZuZ W4.val;dsimp only;rw[o1,o2];omega
theorem Zrl {x:W4}(hx:x.ok) {n:Int}(hn:0≤n) (hj:n/64=2):Zva x n=W4.of (x.val*2^n.toNat):=by
 obtain⟨h1,h2,h3,h4⟩:=hx;obtain⟨o1,u1,s1,m1⟩:=Zbl hn h1 h2;obtain⟨_,u2,_,m2⟩:=Zbl hn h2 h3;have e:=Zah n hn 2 hj;have one:(2:Int)^(64*2)=340282366920938463463374607431768211456:=rfl;rw[one] at e;refine (W4.of_eq (x:=Zva x n) (k:=dn x.b n+x.c*2^(n % 64).toNat+18446744073709551616*(x.d*2^(n % 64).toNat)) ?_ ?_).symm
 ·unfold Zva;rw[o1];exact⟨z64,z64,u1,s1⟩
 ·rw[e,Int.mul_left_comm,ZaP,m1,m2];unfold Zva W4.val;dsimp only;rw[o1];omega
theorem Zrm {x:W4}(hx:x.ok) {n:Int}(hn:0≤n) (hj:n/64=3):Zvb x n=W4.of (x.val*2^n.toNat):=by
 obtain⟨h1,h2,h3,h4⟩:=hx;obtain⟨_,u1,_,m1⟩:=Zbl hn h1 h2;have e:=Zah n hn 3 hj;have one:(2:Int)^(64*3)=6277101735386680763835789423207666416102355444464034512896:=rfl;rw[one] at e;refine (W4.of_eq (x:=Zvb x n) (k:=dn x.a n+x.b*2^(n % 64).toNat+18446744073709551616*(x.c*2^(n % 64).toNat)+340282366920938463463374607431768211456*(x.d*2^(n % 64).toNat)) ?_ ?_).symm
 ·unfold Zvb;exact⟨z64,z64,z64,u1⟩
 ·rw[e,Int.mul_left_comm,ZaP,m1];unfold Zvb W4.val;dsimp only;omega
theorem Znl (x y:Int):orr x y=orr y x:=by unfold orr;rw[BitVec.or_comm]
structure Cut' (a q r hi lo:Int):Prop where
 sum:a=q*hi+lo
 lo0:0≤lo
 lo1:lo<q
 hi0:0≤hi
 hi1:hi<r
theorem Zz2 {a n q r:Int}(P:Parts n q r) (h0:0≤a) (h1:a<18446744073709551616):Cut' a q r (a/q) (a % q):=by
 have hq:0<q:=by have:=P.q1;omega
 refine⟨(Int.mul_ediv_add_emod a q).symm,Int.emod_nonneg _ (by omega),Int.emod_lt_of_pos _ hq,Int.ediv_nonneg h0 (by omega),?_⟩;apply Int.ediv_lt_of_lt_mul hq;rw[Int.mul_comm,P.qr];exact h1
theorem ZpK {a n q r:Int}(hn:0≤n) (P:Parts n q r):dn' a n=a/q:=by
 unfold dn';rw[ZjU hn,← P.eq,Int.fdiv_eq_ediv_of_nonneg _ (by have:=P.q1;omega)]
theorem ZpL {a n q r hi lo:Int}(hn:0≤n) (P:Parts n q r) (C:Cut' a q r hi lo):up' a n=r*lo∧0≤r*lo∧r*lo+r≤18446744073709551616:=by
 have e:a*r=18446744073709551616*hi+r*lo:=by
  rw[C.sum,Int.add_mul,← P.qr,Int.mul_right_comm q hi r,Int.mul_comm lo r]
 have b0:0≤r*lo:=Int.mul_nonneg (by have:=P.r1;omega) C.lo0;have b1:r*lo+r≤18446744073709551616:=by
  have h:=ZbU (lo+1) q r (by have:=P.r1;omega) (by have:=C.lo1;omega);rw[Int.mul_comm r q,P.qr,Int.mul_add,Int.mul_one] at h;exact h
 refine⟨?_,b0,b1⟩;unfold up';rw[ZjV hn,← P.er,ZK,e];have:=P.r1;omega
theorem zH {n:Int}(hn:0≤n) {a b:Int}(ha:0≤a∧a<18446744073709551616) (hb:0≤b∧b<18446744073709551616):
  ∃ lb:Int,orr (dn' a n) (up' b n)=dn' a n+up' b n∧(0≤dn' a n∧dn' a n<18446744073709551616)∧(0≤dn' a n+up' b n∧dn' a n+up' b n<18446744073709551616)∧
   2^(n % 64).toNat*up' b n=18446744073709551616*lb∧0≤lb∧lb<2^(n % 64).toNat∧b=2^(n % 64).toNat*dn' b n+lb:=by
 have P:=zb n;have Ca:=Zz2 P ha.1 ha.2;have Cb:=Zz2 P hb.1 hb.2;obtain⟨f1,c1,c2⟩:=ZpL hn P Cb;have e1:=ZpK (a:=a) hn P;have e2:=ZpK (a:=b) hn P;have h0:=Ca.hi0;have h1:=Ca.hi1;have r1:=P.r1;refine⟨b % 2^(n % 64).toNat,?_,⟨by omega,by omega⟩,⟨by omega,by omega⟩,?_,Cb.lo0,Cb.lo1,by rw[e2];exact Cb.sum⟩
 ·rw[Znl,f1,e1,Int.add_comm];exact ZpJ (k:=(64-n % 64).toNat) ⟨_,rfl⟩ c1 h0 h1 (by omega)
 ·rw[f1,← Int.mul_assoc,P.qr]
theorem Znm {n:Int}(hn:0≤n) {b:Int}(hb:0≤b∧b<18446744073709551616):up' b n % 2=0:=by
 have P:=zb n;obtain⟨f1,_,_⟩:=ZpL hn P (Zz2 P hb.1 hb.2);obtain⟨k,hk⟩:∃ k,(64-n % 64).toNat=k+1:=⟨(64-n % 64).toNat-1,by omega⟩;rw[f1,hk,Int.pow_succ,Int.mul_comm _ 2,Int.mul_assoc];omega
def Zrn (x:W4) (n:Int):W4:=⟨orr (dn' x.a n) (up' x.b n),orr (dn' x.b n) (up' x.c n),orr (dn' x.c n) (up' x.d n),dn' x.d n⟩
def Zro (x:W4) (n:Int):W4:=⟨orr (dn' x.b n) (up' x.c n),orr (dn' x.c n) (up' x.d n),dn' x.d n,0⟩
def Zrp (x:W4) (n:Int):W4:=⟨orr (dn' x.c n) (up' x.d n),dn' x.d n,0,0⟩
def Zrq (x:W4) (n:Int):W4:=⟨dn' x.d n,0,0,0⟩
theorem Zgc {N q m l:Int}(h:N=q*m+l) (h0:0≤l) (h1:l<q):N/q=m:=by
 rw[h,Int.add_comm,Int.add_mul_ediv_left _ _ (by omega),Int.ediv_eq_zero_of_lt h0 h1,Int.zero_add]
theorem Ze5 {x m:W4}{n:Int}{q l:Int}(hm:m.ok) (h:x.val=q*m.val+l) (h0:0≤l) (h1:l<q) (hq:q=2^n.toNat):m=W4.of (x.val/2^n.toNat):=by
 rw[← hq,Zgc h h0 h1,W4.of_val hm]
theorem ZjW {x:W4}(hx:x.ok) {n:Int}(hn:0≤n) (hj:n/64=0):Zrn x n=W4.of (x.val/2^n.toNat)∧(Zrn x n).ok:=by
 obtain⟨h1,h2,h3,h4⟩:=hx;obtain⟨l1,o1,d1,s1,m1,l10,l11,e1⟩:=zH hn h1 h2;obtain⟨l2,o2,d2,s2,m2,l20,l21,e2⟩:=zH hn h2 h3;obtain⟨l3,o3,d3,s3,m3,l30,l31,e3⟩:=zH hn h3 h4;obtain⟨l4,_,d4,_,_,l40,l41,e4⟩:=zH hn h4 h1;have e:=Zah n hn 0 hj;have one:(2:Int)^(64*0)=1:=rfl;rw[one,Int.one_mul] at e;have hok:(Zrn x n).ok:=by unfold Zrn;rw[o1,o2,o3];exact⟨s1,s2,s3,d4⟩
 refine⟨Ze5 (q:=2^(n % 64).toNat) (l:=l4) hok ?_ l40 l41 e.symm,hok⟩;rw[Int.mul_comm,ZaP];unfold Zrn W4.val;dsimp only;rw[o1,o2,o3];generalize (2:Int)^(n % 64).toNat=q at*;simp only[Int.mul_comm _ q,Int.mul_add];omega
theorem ZjX {x:W4}(hx:x.ok) {n:Int}(hn:0≤n) (hj:n/64=1):Zro x n=W4.of (x.val/2^n.toNat)∧(Zro x n).ok:=by
 obtain⟨h1,h2,h3,h4⟩:=hx;obtain⟨l2,o2,d2,s2,m2,l20,l21,e2⟩:=zH hn h2 h3;obtain⟨l3,o3,d3,s3,m3,l30,l31,e3⟩:=zH hn h3 h4;obtain⟨l4,_,d4,_,_,_,_,_⟩:=zH hn h4 h1;obtain⟨l5,_,_,_,_,l50,l51,e5⟩:=zH hn h1 h2;have e:=Zah n hn 1 hj;have one:(2:Int)^(64*1)=18446744073709551616:=rfl;rw[one] at e;have hok:(Zro x n).ok:=by unfold Zro;rw[o2,o3];exact⟨s2,s3,d4,z64⟩
 refine⟨Ze5 (q:=18446744073709551616*2^(n % 64).toNat) (l:=x.a+18446744073709551616*l5) hok ?_ (by omega) (by omega) e.symm,hok⟩;rw[Int.mul_assoc,Int.mul_comm (2^(n % 64).toNat),ZaP];unfold Zro W4.val;dsimp only;rw[o2,o3];generalize (2:Int)^(n % 64).toNat=q at*;simp only[Int.mul_comm _ q,Int.mul_add];omega
theorem ZjY {x:W4}(hx:x.ok) {n:Int}(hn:0≤n) (hj:n/64=2):Zrp x n=W4.of (x.val/2^n.toNat)∧(Zrp x n).ok:=by
 obtain⟨h1,h2,h3,h4⟩:=hx;obtain⟨l3,o3,d3,s3,m3,l30,l31,e3⟩:=zH hn h3 h4;obtain⟨l4,_,d4,_,_,_,_,_⟩:=zH hn h4 h1;obtain⟨l5,_,_,_,_,l50,l51,e5⟩:=zH hn h1 h3;have e:=Zah n hn 2 hj;have one:(2:Int)^(64*2)=340282366920938463463374607431768211456:=rfl;rw[one] at e;have hok:(Zrp x n).ok:=by unfold Zrp;rw[o3];exact⟨s3,d4,z64,z64⟩
 refine⟨Ze5 (q:=340282366920938463463374607431768211456*2^(n % 64).toNat) (l:=x.a+18446744073709551616*x.b+340282366920938463463374607431768211456*l5) hok ?_ (by omega) (by omega) e.symm,hok⟩;rw[Int.mul_assoc,Int.mul_comm (2^(n % 64).toNat),ZaP];unfold Zrp W4.val;dsimp only;rw[o3];generalize (2:Int)^(n % 64).toNat=q at*;simp only[Int.mul_comm _ q,Int.mul_add];omega
theorem ZjZ {x:W4}(hx:x.ok) {n:Int}(hn:0≤n) (hj:n/64=3):Zrq x n=W4.of (x.val/2^n.toNat)∧(Zrq x n).ok:=by
 obtain⟨h1,h2,h3,h4⟩:=hx;obtain⟨l4,_,d4,_,_,_,_,_⟩:=zH hn h4 h1;obtain⟨l5,_,_,_,_,l50,l51,e5⟩:=zH hn h1 h4;have e:=Zah n hn 3 hj;have one:(2:Int)^(64*3)=6277101735386680763835789423207666416102355444464034512896:=rfl;rw[one] at e;have hok:(Zrq x n).ok:=by unfold Zrq;exact⟨d4,z64,z64,z64⟩
 refine⟨Ze5 (q:=6277101735386680763835789423207666416102355444464034512896*2^(n % 64).toNat) (l:=x.a+18446744073709551616*x.b+340282366920938463463374607431768211456*x.c+6277101735386680763835789423207666416102355444464034512896*l5) hok ?_ (by omega) (by omega) e.symm,hok⟩;rw[Int.mul_assoc,Int.mul_comm (2^(n % 64).toNat),ZaP];unfold Zrq W4.val;dsimp only;generalize (2:Int)^(n % 64).toNat=q at*;simp only[Int.mul_comm _ q];omega
end Go.Wd
namespace Go.Proofs.YtekebccjflilnaaGreat
open Go.KRun
theorem Zz {a b:Bool}(h:a=b):Zx [(a,b)]:=fun p hp=>by rw[List.mem_singleton.1 hp];exact h
theorem Za {a b:Bool}{l:Log}(h:a=b) (hl:Zx l):Zx ((a,b)::l):=fun p hp=>by
 rcases List.mem_cons.1 hp with rfl | hp
 ·exact h
 ·exact hl p hp
theorem Zea {a b:Bool}{l:Log}:Zx ((a,b)::l)↔a=b∧Zx l:=⟨fun h=>⟨h _ (Xe),fun x hx=>h x (Xd _ hx)⟩,fun h=>Za h.1 h.2⟩
theorem Zka:Zx []:=fun x hx=>by cases hx
end Go.Proofs.YtekebccjflilnaaGreat
namespace Go.Proofs.YtekebccjflilnaaGreat
open Go.Proofs.Tryz
open Go.IntKind
open Go.KRun Go.Wd
def g1n (k:W4→Int→List Dec→Option (Value×List Dec×Log)):Ans:=fun vals s=>
 match vals with
 | [x,.int .i64 n]=>
  match w4 x with
  | some a=>
   match k a n s with
   | some r=>some (r.1,r.2.1,(decide (a.ok∧ -9223372036854775808≤n∧n≤9223372036854775807),true)::r.2.2)
   | none=>none
  | none=>none
 | _=>none
theorem ZpM {f:Nat}{k:W4→Int→List Dec→Option (Value×List Dec×Log)}
  (hk:∀ (x:W4) (n:Int),x.ok→ -9223372036854775808≤n→n≤9223372036854775807→∀ s v s' lg,k x n s=some (v,s',lg)→Zx lg→∀ w,Calls prog f #[vW x,.int .i64 n] w fun e w'=>e= .returned v∧zg w w'):ZJ f (g1n k):=by
 intro vals s v s' lg h hl w;unfold g1n at h;split at h
 ·split at h
  ·rename_i a ha;split at h
   ·rename_i r hr;cases h;have h1:=hl _ (Xe);simp only[Xi] at h1;rw[ZbG ha];exact hk a _ h1.1 h1.2.1 h1.2.2 s r.1 r.2.1 r.2.2 hr (fun p hp=>hl p (Xd _ hp)) w
   ·cases h
  ·cases h
 ·cases h
def Za3 (k:W4→Int→Value):W4→Int→List Dec→Option (Value×List Dec×Log):=fun x n s=>some (k x n,s,[])
theorem zN {f:Nat}{k:W4→Int→Value}(hk:∀ (x:W4) (n:Int),x.ok→ -9223372036854775808≤n→n≤9223372036854775807→∀ w,Calls prog f #[vW x,.int .i64 n] w fun e w'=>e= .returned (k x n)∧zg w w'):ZJ f (g1n (Za3 k)):=
 ZpM fun x n hx h0 h1 s v s' lg h _ w=>by
  unfold Za3 at h;cases h;exact hk x n hx h0 h1 w
theorem ZdF {p:Bool×Bool}(h:p.1=p.2):Zx [p]:=fun x hx=>by rw[List.mem_singleton.1 hx];exact h
theorem ZG {p:Bool×Bool}{l:Log}(h:p.1=p.2) (hl:Zx l):Zx (p::l):=fun x hx=>by
 rcases List.mem_cons.1 hx with rfl | hx
 ·exact h
 ·exact hl x hx
def lu (n:Int):Bool×Bool:=(decide (prt n<0),false)
def ld (n:Int):Bool×Bool:=(decide (rem n<0),false)
def lq (n k:Int):Log:=[(decide ((64:Int)=0),false),(decide (i64.wrap (n.tdiv 64)=k),true),(decide (n≥256),false),(decide (n<1),false)]
theorem Zrr (x:W4) (n:Int):Zw (Ze (Zi prog Zh Zo true) 3000 72 [vW x,.int .i64 n] [tst true]) (vW x) [(decide (n<1),true)]:=by and_intros<;>kernel_rfl
theorem Znn (x:W4) (n:Int):Zw (Ze (Zi prog Zh Zo true) 3000 72 [vW x,.int .i64 n] [tst false,tst true]) (vW ⟨0,0,0,0⟩) [(decide (n≥256),true),(decide (n<1),false)]:=by and_intros<;>kernel_rfl
theorem Zz3 (x:W4) (n:Int):Zw (Ze (Zi prog Zh Zo true) 3000 72 [vW x,.int .i64 n] [tst false,tst false,num 0]) (vW (ZuY x n)) (ld n::lu n::ld n::lu n::ld n::lu n::lu n::lq n 0):=by and_intros<;>kernel_rfl
theorem Zz4 (x:W4) (n:Int):Zw (Ze (Zi prog Zh Zo true) 3000 72 [vW x,.int .i64 n] [tst false,tst false,num 1]) (vW (ZuZ x n)) (ld n::lu n::ld n::lu n::lu n::lq n 1):=by and_intros<;>kernel_rfl
theorem Zz5 (x:W4) (n:Int):Zw (Ze (Zi prog Zh Zo true) 3000 72 [vW x,.int .i64 n] [tst false,tst false,num 2]) (vW (Zva x n)) (ld n::lu n::lu n::lq n 2):=by and_intros<;>kernel_rfl
theorem Zz6 (x:W4) (n:Int):Zw (Ze (Zi prog Zh Zo true) 3000 72 [vW x,.int .i64 n] [tst false,tst false,num 3]) (vW (Zvb x n)) (lu n::lq n 3):=by and_intros<;>kernel_rfl
def Zac (x:W4) (n:Int):W4:=if n<1 then x else if 256≤n then ⟨0,0,0,0⟩ else W4.of (x.val*2^n.toNat)
def Zgd (x:W4) (n:Int):Value:=vW (Zac x n)
theorem Zrs {n:Int}(h:0≤n):(lu n).1=(lu n).2:=by
 have:=ZjT h;exact Xb (by omega)
theorem Zvc {n:Int}(h:0≤n):(ld n).1=(ld n).2:=by
 have:=ZpI h;exact Xb (by omega)
theorem Zfv {n k:Int}(h1:¬ n<1) (h2:¬ 256≤n) (h3:n/64=k):Zx (lq n k):=by
 refine ZG (by rfl) (ZG (Xa ?_) (ZG (Xb h2) (ZdF (Xb h1))));rw[Int.tdiv_eq_ediv_of_nonneg (by omega),ZR (by omega) (by omega)];exact h3
theorem Zbm (x:W4) (n:Int) (hx:x.ok) (_h0: -9223372036854775808≤n) (_h9:n≤9223372036854775807) (w:World):Calls prog 72 #[vW x,.int .i64 n] w fun e w'=>e= .returned (Zgd x n)∧zg w w':=by
 unfold Zgd Zac;by_cases h1:n<1
 ·rw[if_pos h1];exact Zb (Zf Zd) (Zrr x n) (ZdF (Xa h1)) (by rfl) (by rfl) w
 ·rw[if_neg h1];by_cases h2:256≤n
  ·rw[if_pos h2];exact Zb (Zf Zd) (Znn x n) (ZG (Xa h2) (ZdF (Xb h1))) (by rfl) (by rfl) w
  ·rw[if_neg h2];have hn:0≤n:=by omega
   have u:=Zrs hn;have d:=Zvc hn;have hj:n/64=0∨n/64=1∨n/64=2∨n/64=3:=by omega
   rcases hj with hj | hj | hj | hj
   ·rw[← Zrj hx hn hj];exact Zb (Zf Zd) (Zz3 x n) (ZG d (ZG u (ZG d (ZG u (ZG d (ZG u (ZG u (Zfv h1 h2 hj)))))))) (by rfl) (by rfl) w
   ·rw[← Zrk hx hn hj];exact Zb (Zf Zd) (Zz4 x n) (ZG d (ZG u (ZG d (ZG u (ZG u (Zfv h1 h2 hj)))))) (by rfl) (by rfl) w
   ·rw[← Zrl hx hn hj];exact Zb (Zf Zd) (Zz5 x n) (ZG d (ZG u (ZG u (Zfv h1 h2 hj)))) (by rfl) (by rfl) w
   ·rw[← Zrm hx hn hj];exact Zb (Zf Zd) (Zz6 x n) (ZG u (Zfv h1 h2 hj)) (by rfl) (by rfl) w
def Zge:Con:=alt 72 (g1n (Za3 Zgd)) Zo
theorem Zb2:ConOk Zge:=Zy func72 rfl (zN Zbm) Zd
def lk (x:W4) (n:Int):Bool×Bool:=(decide (x.ok∧ -9223372036854775808≤n∧n≤9223372036854775807),true)
def ZyP (m x:W4) (n:Int):Value:= .tuple #[vW m,.bool (!(eqW (Zac m n) x))]
theorem Zrt (x:W4) (n:Int):Zw (Ze (Zi prog Zh Zge true) 3000 103 [vW x,.int .i64 n] [tst true]) (.tuple #[vW x,.bool false]) [(decide (n<1),true)]:=by and_intros<;>kernel_rfl
theorem Zno (x:W4) (n:Int):Zw (Ze (Zi prog Zh Zge true) 3000 103 [vW x,.int .i64 n] [tst false,tst true]) (.tuple #[vW ⟨0,0,0,0⟩,.bool (!(eqW x ⟨0,0,0,0⟩))]) [(decide (n≥256),true),(decide (n<1),false)]:=by and_intros<;>kernel_rfl
theorem Zz7 (x:W4) (n:Int):Zw (Ze (Zi prog Zh Zge true) 3000 103 [vW x,.int .i64 n] [tst false,tst false,num 0]) (ZyP (Zrn x n) x n) (lk (Zrn x n) n::lu n::ld n::lu n::ld n::lu n::ld n::lu n::lq n 0):=by and_intros<;>kernel_rfl
theorem Zz8 (x:W4) (n:Int):Zw (Ze (Zi prog Zh Zge true) 3000 103 [vW x,.int .i64 n] [tst false,tst false,num 1]) (ZyP (Zro x n) x n) (lk (Zro x n) n::lu n::ld n::lu n::ld n::lu n::lq n 1):=by and_intros<;>kernel_rfl
theorem Zz9 (x:W4) (n:Int):Zw (Ze (Zi prog Zh Zge true) 3000 103 [vW x,.int .i64 n] [tst false,tst false,num 2]) (ZyP (Zrp x n) x n) (lk (Zrp x n) n::lu n::ld n::lu n::lq n 2):=by and_intros<;>kernel_rfl
theorem ZzA (x:W4) (n:Int):Zw (Ze (Zi prog Zh Zge true) 3000 103 [vW x,.int .i64 n] [tst false,tst false,num 3]) (ZyP (Zrq x n) x n) (lk (Zrq x n) n::lu n::lq n 3):=by and_intros<;>kernel_rfl
def Zfe (x:W4) (n:Int):W4:=if n<1 then x else if 256≤n then ⟨0,0,0,0⟩ else W4.of (x.val/2^n.toNat)
def Zfw (x:W4) (n:Int):Bool:=if n<1 then false else if 256≤n then decide (x.val≠0) else decide (x.val % 2^n.toNat≠0)
def Znp (x:W4) (n:Int):Value:= .tuple #[vW (Zfe x n),.bool (Zfw x n)]
theorem Znq {x:W4}(hx:x.ok):(!(eqW x ⟨0,0,0,0⟩))=decide (x.val≠0):=by
 rw[Bool.eq_iff_iff];simp only[Bool.not_eq_true',Xi,← Bool.not_eq_true,Zbi];constructor
 ·intro h h0;exact h (W4.val_inj hx ⟨z64,z64,z64,z64⟩ (h0.trans (by rfl)))
 ·intro h h0;exact h (by rw[h0];rfl)
theorem lost_iff {x:W4}(hx:x.ok) {n:Int}(h1:¬ n<1) (h2:¬ 256≤n):(!(eqW (Zac (W4.of (x.val/2^n.toNat)) n) x))=decide (x.val % 2^n.toNat≠0):=by
 have hp:(0:Int)<2^n.toNat:=Int.pow_pos (by omega);have b:=W4.val_bd hx;have hm:=Int.mul_ediv_add_emod x.val (2^n.toNat);have h3:=Int.emod_nonneg x.val (Int.ne_of_gt hp);have h4:0≤x.val/2^n.toNat:=Int.ediv_nonneg b.1 (by omega);have h5:x.val/2^n.toNat≤x.val:=by
  have:=ZbU 1 (2^n.toNat) (x.val/2^n.toNat) h4 (by omega);rw[Int.mul_one,Int.mul_comm] at this;omega
 have e:Zac (W4.of (x.val/2^n.toNat)) n=W4.of (x.val-x.val % 2^n.toNat):=by
  unfold Zac;rw[if_neg h1,if_neg h2,W4.val_of,Int.emod_eq_of_lt h4 (by omega),Int.mul_comm];congr 1;omega
 rw[e,Bool.eq_iff_iff];simp only[Bool.not_eq_true',Xi,← Bool.not_eq_true,Zbi];generalize x.val % 2^n.toNat=l at*;have h6:0≤2^n.toNat*(x.val/2^n.toNat):=Int.mul_nonneg (by omega) h4;constructor
 ·intro h h0;apply h;rw[h0,Int.sub_zero,W4.of_val hx]
 ·intro h h0;have h7:=congrArg W4.val h0;rw[W4.val_of,Int.emod_eq_of_lt (by omega) (by omega)] at h7;omega
theorem Zgf {x:W4}{n:Int}(h:x.ok) (h0: -9223372036854775808≤n) (h9:n≤9223372036854775807):(lk x n).1=(lk x n).2:=by
 unfold lk;exact Xa ⟨h,h0,h9⟩
set_option maxRecDepth 100000 in
theorem Zdq (x:W4) (n:Int) (hx:x.ok) (h0: -9223372036854775808≤n) (h9:n≤9223372036854775807) (w:World):Calls prog 103 #[vW x,.int .i64 n] w fun e w'=>e= .returned (Znp x n)∧zg w w':=by
 unfold Znp Zfe Zfw;by_cases h1:n<1
 ·rw[if_pos h1,if_pos h1];exact Zb (Zf Zb2) (Zrt x n) (ZdF (Xa h1)) (by rfl) (by rfl) w
 ·rw[if_neg h1,if_neg h1];by_cases h2:256≤n
  ·rw[if_pos h2,if_pos h2,← Znq hx];exact Zb (Zf Zb2) (Zno x n) (ZG (Xa h2) (ZdF (Xb h1))) (by rfl) (by rfl) w
  ·rw[if_neg h2,if_neg h2];have hn:0≤n:=by omega
   have u:=Zrs hn;have d:=Zvc hn;have hl:=lost_iff hx h1 h2;have hj:n/64=0∨n/64=1∨n/64=2∨n/64=3:=by omega
   rw[← hl];rcases hj with hj | hj | hj | hj
   ·obtain⟨e1,e2⟩:=ZjW hx hn hj;rw[← e1];exact Zb (Zf Zb2) (Zz7 x n) (ZG (Zgf e2 h0 h9) (ZG u (ZG d (ZG u (ZG d (ZG u (ZG d (ZG u (Zfv h1 h2 hj))))))))) (by rfl) (by rfl) w
   ·obtain⟨e1,e2⟩:=ZjX hx hn hj;rw[← e1];exact Zb (Zf Zb2) (Zz8 x n) (ZG (Zgf e2 h0 h9) (ZG u (ZG d (ZG u (ZG d (ZG u (Zfv h1 h2 hj))))))) (by rfl) (by rfl) w
   ·obtain⟨e1,e2⟩:=ZjY hx hn hj;rw[← e1];exact Zb (Zf Zb2) (Zz9 x n) (ZG (Zgf e2 h0 h9) (ZG u (ZG d (ZG u (Zfv h1 h2 hj))))) (by rfl) (by rfl) w
   ·obtain⟨e1,e2⟩:=ZjZ hx hn hj;rw[← e1];exact Zb (Zf Zb2) (ZzA x n) (ZG (Zgf e2 h0 h9) (ZG u (Zfv h1 h2 hj))) (by rfl) (by rfl) w
def Ze6 (b:Bool):List Dec→Bool×List Dec×Log
 | .inr (.inr (.inr (.inl d)))::s=>(d,s,[(b,d)])
 | s=>(b,s,[])
theorem Zhd {b:Bool}{s:List Dec}(h:Zx (Ze6 b s).2.2):(Ze6 b s).1=b:=by
 unfold Ze6 at*;split at h
 ·rename_i d s;exact (h (b,d) Xf).symm
 ·rfl
def ZzB:W4→Int→List Dec→Option (Value×List Dec×Log):=fun x n s=>some (.tuple #[vW (Zfe x n),.bool (Ze6 (Zfw x n) s).1],(Ze6 (Zfw x n) s).2.1,(Ze6 (Zfw x n) s).2.2)
theorem Zru:ZJ 103 (g1n ZzB):=ZpM fun x n hx h0 h1 s v s' lg h hl w=>by
 unfold ZzB at h;cases h;rw[Zhd hl];exact Zdq x n hx h0 h1 w
def Zdr:List UInt8:=(List.range 256).map fun i=>UInt8.ofNat (bitLen i)
def Zkb (z:Int):Int:=((Zdr.getD (u8.wrap z).toNat 0).toNat:Int)
def lt8 (z:Int):Bool×Bool:=(decide (0≤u8.wrap z∧(u8.wrap z).toNat<Zdr.length),true)
def sh (z:Int) (k:Nat):Int:=z.fdiv (2^k)
def ge (z k:Int) (d:Bool):Bool×Bool:=(decide (z≥k),d)
def Zm5 (m z:Int):Value:= .int .i64 (i64.wrap (m+i64.wrap (Zkb z)))
def nz:Bool×Bool:=(false,false)
theorem Zrv (u:Int):Zw (Ze (Zi prog Zh Zo true) 3000 106 [.int .u64 u] [tst false,tst false,tst false]) (Zm5 0 u) [lt8 u,ge u 256 false,ge u 65536 false,ge u 4294967296 false]:=by and_intros<;>kernel_rfl
theorem Zrw (u:Int):Zw (Ze (Zi prog Zh Zo true) 3000 106 [.int .u64 u] [tst false,tst false,tst true]) (Zm5 8 (sh u 8)) [lt8 (sh u 8),nz,ge u 256 true,ge u 65536 false,ge u 4294967296 false]:=by and_intros<;>kernel_rfl
theorem Zrx (u:Int):Zw (Ze (Zi prog Zh Zo true) 3000 106 [.int .u64 u] [tst false,tst true,tst false]) (Zm5 16 (sh u 16)) [lt8 (sh u 16),ge (sh u 16) 256 false,nz,ge u 65536 true,ge u 4294967296 false]:=by and_intros<;>kernel_rfl
theorem Zry (u:Int):Zw (Ze (Zi prog Zh Zo true) 3000 106 [.int .u64 u] [tst false,tst true,tst true]) (Zm5 24 (sh (sh u 16) 8)) [lt8 (sh (sh u 16) 8),nz,ge (sh u 16) 256 true,nz,ge u 65536 true,ge u 4294967296 false]:=by and_intros<;>kernel_rfl
theorem Zrz (u:Int):Zw (Ze (Zi prog Zh Zo true) 3000 106 [.int .u64 u] [tst true,tst false,tst false]) (Zm5 32 (sh u 32)) [lt8 (sh u 32),ge (sh u 32) 256 false,ge (sh u 32) 65536 false,nz,ge u 4294967296 true]:=by and_intros<;>kernel_rfl
theorem Zr0 (u:Int):Zw (Ze (Zi prog Zh Zo true) 3000 106 [.int .u64 u] [tst true,tst false,tst true]) (Zm5 40 (sh (sh u 32) 8)) [lt8 (sh (sh u 32) 8),nz,ge (sh u 32) 256 true,ge (sh u 32) 65536 false,nz,ge u 4294967296 true]:=by and_intros<;>kernel_rfl
theorem Zr1 (u:Int):Zw (Ze (Zi prog Zh Zo true) 3000 106 [.int .u64 u] [tst true,tst true,tst false]) (Zm5 48 (sh (sh u 32) 16)) [lt8 (sh (sh u 32) 16),ge (sh (sh u 32) 16) 256 false,nz,ge (sh u 32) 65536 true,nz,ge u 4294967296 true]:=by and_intros<;>kernel_rfl
theorem Zr2 (u:Int):Zw (Ze (Zi prog Zh Zo true) 3000 106 [.int .u64 u] [tst true,tst true,tst true]) (Zm5 56 (sh (sh (sh u 32) 16) 8)) [lt8 (sh (sh (sh u 32) 16) 8),nz,ge (sh (sh u 32) 16) 256 true,nz,ge (sh u 32) 65536 true,nz,ge u 4294967296 true]:=by and_intros<;>kernel_rfl
theorem Zij:Zdr.length=256:=by unfold Zdr;rw[List.length_map,List.length_range]
theorem Zik (b:Nat) (h:b<256):(Zdr.getD b 0).toNat=bitLen b:=by
 have h1:Zdr.getD b 0=UInt8.ofNat (bitLen b):=by
  unfold Zdr;rw[List.getD,List.getElem?_map,List.getElem?_range h];rfl
 have h2:=bitLen_le8 b h;rw[h1,UInt8.toNat_ofNat'];omega
theorem Zr3 {z:Int}(h0:0≤z) (h1:z<256):u8.wrap z=z:=by
 simp [IntKind.wrap,IntKind.bits,IntKind.signed];omega
theorem Zbn {m:Int}{Z:Nat}(hm:0≤m) (hm':m≤56) (h1:Z<256):Zm5 m (Z:Int)= .int .i64 (m+bitLen Z)∧(lt8 (Z:Int)).1=(lt8 (Z:Int)).2:=by
 have hb:=bitLen_le8 Z h1;have e:=Zr3 (z:=(Z:Int)) (by omega) (by omega);refine⟨?_,?_⟩
 ·unfold Zm5 Zkb;rw[e,Xg,Zik Z h1,ZR (n:=((bitLen Z:Nat):Int)) (by omega) (by omega),ZR (by omega) (by omega)]
 ·unfold lt8;rw[e,Xg];rw[Zij];exact Xa (And.intro (by omega) h1)
theorem Zao (Z k:Nat):sh (Z:Int) k=((Z/2^k:Nat):Int):=by
 unfold sh;rw[Int.fdiv_eq_ediv_of_nonneg _ (Int.le_of_lt (Int.pow_pos (by omega)))];simp
theorem Zji {z k:Int}(h:k≤z):(ge z k true).1=(ge z k true).2:=Xa h
theorem Zjj {z k:Int}(h:z<k):(ge z k false).1=(ge z k false).2:=Xb (by omega)
theorem ZcE:nz.1=nz.2:=rfl
theorem Zds (x b:Nat) (h:2^b≤x):bitLen x=b+bitLen (x/2^b):=bitLen_shift x b (by
 have:0<x/2^b:=Nat.div_pos h (Nat.two_pow_pos b);omega)
def Zkc (u:Int):Value:= .int .i64 (bitLen u.toNat:Nat)
set_option maxRecDepth 100000 in
theorem Zgg (u:Int) (h0:0≤u) (h1:u<18446744073709551616) (w:World):Calls prog 106 #[.int .u64 u] w fun e w'=>e= .returned (Zkc u)∧zg w w':=by
 obtain⟨U,rfl⟩:=Int.eq_ofNat_of_zero_le h0;unfold Zkc;rw[Xg];have p8:(2:Nat)^8=256:=rfl;have p16:(2:Nat)^16=65536:=rfl;have p32:(2:Nat)^32=4294967296:=rfl;have step:∀ {v:Value}{m:Int}{Z:Nat}{s:List Dec}{cs:Log},Zw (Ze (Zi prog Zh Zo true) 3000 106 [.int .u64 (U:Int)] s) v cs→Zx cs→v= .int .i64 (bitLen U:Nat)→Calls prog 106 #[.int .u64 (U:Int)] w fun e w'=>e= .returned (.int .i64 (bitLen U:Nat))∧zg w w':=
  fun {v m Z s cs} hf hc hv=>by subst hv;exact Zb (Zf Zd) hf hc (by rfl) (by rfl) w
 by_cases a:U<4294967296
 ·by_cases b:U<65536
  ·by_cases c:U<256
   ·obtain⟨e1,e2⟩:=Zbn (m:=0) (by omega) (by omega) c;exact step (m:=0) (Z:=0) (Zrv U) (ZG e2 (ZG (Zjj (by omega)) (ZG (Zjj (by omega)) (ZdF (Zjj (by omega)))))) (by rw[e1];congr 1;omega)
   ·have l:=Zds U 8 (by omega);obtain⟨e1,e2⟩:=Zbn (m:=8) (Z:=U/2^8) (by omega) (by omega) (by omega);rw[← Zao] at e1 e2;exact step (m:=0) (Z:=0) (Zrw U) (ZG e2 (ZG ZcE (ZG (Zji (by omega)) (ZG (Zjj (by omega)) (ZdF (Zjj (by omega))))))) (by rw[e1];congr 1;omega)
  ·have l:=Zds U 16 (by omega);by_cases c:U/2^16<256
   ·obtain⟨e1,e2⟩:=Zbn (m:=16) (Z:=U/2^16) (by omega) (by omega) c;rw[← Zao] at e1 e2;exact step (m:=0) (Z:=0) (Zrx U) (ZG e2 (ZG (Zjj (by rw[Zao];omega)) (ZG ZcE (ZG (Zji (by omega)) (ZdF (Zjj (by omega))))))) (by rw[e1];congr 1;omega)
   ·have l2:=Zds (U/2^16) 8 (by omega);obtain⟨e1,e2⟩:=Zbn (m:=24) (Z:=U/2^16/2^8) (by omega) (by omega) (by omega);rw[← Zao,← Zao] at e1 e2;exact step (m:=0) (Z:=0) (Zry U) (ZG e2 (ZG ZcE (ZG (Zji (by rw[Zao];omega)) (ZG ZcE (ZG (Zji (by omega)) (ZdF (Zjj (by omega)))))))) (by rw[e1];congr 1;omega)
 ·have l0:=Zds U 32 (by omega);have q:U/2^32<4294967296:=by omega
  by_cases b:U/2^32<65536
  ·by_cases c:U/2^32<256
   ·obtain⟨e1,e2⟩:=Zbn (m:=32) (Z:=U/2^32) (by omega) (by omega) c;rw[← Zao] at e1 e2;exact step (m:=0) (Z:=0) (Zrz U) (ZG e2 (ZG (Zjj (by rw[Zao];omega)) (ZG (Zjj (by rw[Zao];omega)) (ZG ZcE (ZdF (Zji (by omega))))))) (by rw[e1];congr 1;omega)
   ·have l:=Zds (U/2^32) 8 (by omega);obtain⟨e1,e2⟩:=Zbn (m:=40) (Z:=U/2^32/2^8) (by omega) (by omega) (by omega);rw[← Zao,← Zao] at e1 e2;exact step (m:=0) (Z:=0) (Zr0 U) (ZG e2 (ZG ZcE (ZG (Zji (by rw[Zao];omega)) (ZG (Zjj (by rw[Zao];omega)) (ZG ZcE (ZdF (Zji (by omega)))))))) (by rw[e1];congr 1;omega)
  ·have l:=Zds (U/2^32) 16 (by omega);by_cases c:U/2^32/2^16<256
   ·obtain⟨e1,e2⟩:=Zbn (m:=48) (Z:=U/2^32/2^16) (by omega) (by omega) c;rw[← Zao,← Zao] at e1 e2;exact step (m:=0) (Z:=0) (Zr1 U) (ZG e2 (ZG (Zjj (by rw[Zao,Zao];omega)) (ZG ZcE (ZG (Zji (by rw[Zao];omega)) (ZG ZcE (ZdF (Zji (by omega)))))))) (by rw[e1];congr 1;omega)
   ·have l2:=Zds (U/2^32/2^16) 8 (by omega);obtain⟨e1,e2⟩:=Zbn (m:=56) (Z:=U/2^32/2^16/2^8) (by omega) (by omega) (by omega);rw[← Zao,← Zao,← Zao] at e1 e2;exact step (m:=0) (Z:=0) (Zr2 U) (ZG e2 (ZG ZcE (ZG (Zji (by rw[Zao,Zao];omega)) (ZG ZcE (ZG (Zji (by rw[Zao];omega)) (ZG ZcE (ZdF (Zji (by omega))))))))) (by rw[e1];congr 1;omega)
def gu (k:Int→Value):Ans:=fun vals s=>
 match vals with
 | [.int .u64 u]=>some (k u,s,[(decide (0≤u∧u<18446744073709551616),true)])
 | _=>none
theorem ZzC {f:Nat}{k:Int→Value}(hk:∀ u,0≤u→u<18446744073709551616→∀ w,Calls prog f #[.int .u64 u] w fun e w'=>e= .returned (k u)∧zg w w'):ZJ f (gu k):=by
 intro vals s v s' lg h hl w;unfold gu at h;split at h
 ·cases h;have h1:=hl _ Xf;simp only[Xi] at h1;exact hk _ h1.1 h1.2 w
 ·cases h
def Zr4:Con:=alt 106 (gu Zkc) Zo
theorem Zcs:ConOk Zr4:=Zy func106 rfl (ZzC Zgg) Zd
def ne0 (a:Int) (d:Bool):Bool×Bool:=(a !=0,d)
def yes:Bool×Bool:=(true,true)
def no:Bool×Bool:=(false,false)
def wd (u:Int):Bool×Bool:=(decide (0≤u∧u<18446744073709551616),true)
def Zux (m u:Int):Value:= .int .i64 (i64.wrap (m+(bitLen u.toNat:Nat)))
theorem Zvd (x:W4):Zw (Ze (Zi prog Zh Zr4 true) 3000 93 [vW x] [tst true,tst true]) (Zux 192 x.d) [wd x.d,ne0 x.d true,yes]:=by and_intros<;>kernel_rfl
theorem Zve (x:W4):Zw (Ze (Zi prog Zh Zr4 true) 3000 93 [vW x] [tst true,tst false,tst true,tst true]) (Zux 128 x.c) [wd x.c,ne0 x.c true,yes,ne0 x.d false,yes]:=by and_intros<;>kernel_rfl
theorem Zvf (x:W4):Zw (Ze (Zi prog Zh Zr4 true) 3000 93 [vW x] [tst true,tst false,tst true,tst false,tst true,tst true]) (Zux 64 x.b) [wd x.b,ne0 x.b true,yes,ne0 x.c false,yes,ne0 x.d false,yes]:=by and_intros<;>kernel_rfl
theorem Zvg (x:W4):Zw (Ze (Zi prog Zh Zr4 true) 3000 93 [vW x] [tst true,tst false,tst true,tst false,tst true,tst false,tst true,tst true]) (Zux 0 x.a) [wd x.a,ne0 x.a true,yes,ne0 x.b false,yes,ne0 x.c false,yes,ne0 x.d false,yes]:=by and_intros<;>kernel_rfl
theorem Zvh (x:W4):Zw (Ze (Zi prog Zh Zr4 true) 3000 93 [vW x] [tst true,tst false,tst true,tst false,tst true,tst false,tst true,tst false,tst false]) (.int .i64 0) [no,ne0 x.a false,yes,ne0 x.b false,yes,ne0 x.c false,yes,ne0 x.d false,yes]:=by and_intros<;>kernel_rfl
def Zgh (x:W4):Int:=(bitLen x.val.toNat:Nat)
def Zkd (x:W4):Value:= .int .i64 (Zgh x)
theorem Ze7 {m u:Int}(h0:0≤m) (h1:m≤192) (hu:0≤u∧u<18446744073709551616):Zux m u= .int .i64 (m+(bitLen u.toNat:Nat)):=by
 have:bitLen u.toNat≤64:=by
  unfold bitLen;split
  ·omega
  ·rename_i h;have:=(Nat.log2_lt h).2 (show u.toNat<2^64 by have:(2:Nat)^64=18446744073709551616:=rfl;omega);omega
 unfold Zux;rw[ZR (by omega) (by omega)]
theorem ZyQ {a:Int}(h:a≠0):(ne0 a true).1=(ne0 a true).2:=bne_iff_ne.2 h
theorem Zm6 {a:Int}(h:a=0):(ne0 a false).1=(ne0 a false).2:=by subst h;rfl
theorem Zke {u:Int}(h:0≤u∧u<18446744073709551616):(wd u).1=(wd u).2:=Xa h
theorem Zai:yes.1=yes.2:=rfl
theorem Zr5:no.1=no.2:=rfl
theorem Ze8 {X b U:Nat}(hU:U≠0) (h:X/2^b=U):bitLen X=b+bitLen U:=by
 rw[← h];exact bitLen_shift X b (by omega)
set_option maxRecDepth 100000 in
theorem Zct (x:W4) (hx:x.ok) (w:World):Calls prog 93 #[vW x] w fun e w'=>e= .returned (Zkd x)∧zg w w':=by
 have hx':=hx;obtain⟨a,b,c,d⟩:=x;obtain⟨h1,h2,h3,h4⟩:=hx;unfold Zkd Zgh W4.val;dsimp only at*;by_cases e4:d=0
 ·by_cases e3:c=0
  ·by_cases e2:b=0
   ·by_cases e1:a=0
    ·subst e1 e2 e3 e4;exact Zb (Zf Zcs) (Zvh ⟨0,0,0,0⟩) (ZG Zr5 (ZG (Zm6 rfl) (ZG Zai (ZG (Zm6 rfl) (ZG Zai (ZG (Zm6 rfl) (ZG Zai (ZG (Zm6 rfl) (ZdF Zai))))))))) (by rfl) (by rfl) w
    ·have h:=Zb (Zf Zcs) (Zvg ⟨a,b,c,d⟩) (ZG (Zke h1) (ZG (ZyQ e1) (ZG Zai (ZG (Zm6 e2) (ZG Zai (ZG (Zm6 e3) (ZG Zai (ZG (Zm6 e4) (ZdF Zai))))))))) (by rfl) (by rfl) w;rw[Ze7 (by omega) (by omega) h1] at h;subst e2 e3 e4;simp at h ⊢;exact h
   ·have h:=Zb (Zf Zcs) (Zvf ⟨a,b,c,d⟩) (ZG (Zke h2) (ZG (ZyQ e2) (ZG Zai (ZG (Zm6 e3) (ZG Zai (ZG (Zm6 e4) (ZdF Zai))))))) (by rfl) (by rfl) w;rw[Ze7 (by omega) (by omega) h2] at h;have p:(2:Nat)^64=18446744073709551616:=rfl;have l:=Ze8 (X:=(a+18446744073709551616*b+340282366920938463463374607431768211456*c+6277101735386680763835789423207666416102355444464034512896*d).toNat) (b:=64) (U:=b.toNat) (by omega) (by rw[p];omega);rw[l];simp at h ⊢;exact h
  ·have h:=Zb (Zf Zcs) (Zve ⟨a,b,c,d⟩) (ZG (Zke h3) (ZG (ZyQ e3) (ZG Zai (ZG (Zm6 e4) (ZdF Zai))))) (by rfl) (by rfl) w;rw[Ze7 (by omega) (by omega) h3] at h;have p:(2:Nat)^128=340282366920938463463374607431768211456:=rfl;have l:=Ze8 (X:=(a+18446744073709551616*b+340282366920938463463374607431768211456*c+6277101735386680763835789423207666416102355444464034512896*d).toNat) (b:=128) (U:=c.toNat) (by omega) (by rw[p];omega);rw[l];simp at h ⊢;exact h
 ·have h:=Zb (Zf Zcs) (Zvd ⟨a,b,c,d⟩) (ZG (Zke h4) (ZG (ZyQ e4) (ZdF Zai))) (by rfl) (by rfl) w;rw[Ze7 (by omega) (by omega) h4] at h;have p:(2:Nat)^192=6277101735386680763835789423207666416102355444464034512896:=rfl;have l:=Ze8 (X:=(a+18446744073709551616*b+340282366920938463463374607431768211456*c+6277101735386680763835789423207666416102355444464034512896*d).toNat) (b:=192) (U:=d.toNat) (by omega) (by rw[p];omega);rw[l];simp at h ⊢;exact h
def g1 (k:W4→Value):Ans:=fun vals s=>
 match vals with
 | [x]=>
  match w4 x with
  | some a=>some (k a,s,[(decide a.ok,true)])
  | none=>none
 | _=>none
theorem Zr6 {f:Nat}{k:W4→Value}(hk:∀ x:W4,x.ok→∀ w,Calls prog f #[vW x] w fun e w'=>e= .returned (k x)∧zg w w'):ZJ f (g1 k):=by
 intro vals s v s' lg h hl w;unfold g1 at h;split at h
 ·split at h
  ·rename_i a ha;cases h;have h1:=hl _ Xf;simp only[Xi] at h1;rw[ZbG ha];exact hk a h1 w
  ·cases h
 ·cases h
def ZpN (z:Int):Int:=u64.wrap ((BitVec.ofInt 64 z &&& BitVec.ofInt 64 1).toNat:Nat)
theorem Zkf {z:Int}(h0:0≤z) (h1:z<18446744073709551616):ZpN z=z % 2:=by
 obtain⟨Z,rfl⟩:=Int.eq_ofNat_of_zero_le h0;unfold ZpN;have e1:(BitVec.ofInt 64 (Z:Int)).toNat=Z:=by simp;omega
 have e2:(BitVec.ofInt 64 1).toNat=1:=rfl;rw[BitVec.toNat_and,e1,e2,Nat.and_one_is_mod,ZK];omega
def lb (n k:Int):Log:=[(decide ((64:Int)=0),false),(decide (i64.wrap (n.tdiv 64)=k),true),(decide (n≥256),false),(decide (n<0),false)]
theorem Zr7 (x:W4) (n:Int):Zw (Ze (Zi prog Zh Zo true) 3000 97 [vW x,.int .i64 n] [cmp true]) (.int .u64 0) [(decide (n<0),true)]:=by and_intros<;>kernel_rfl
theorem Znr (x:W4) (n:Int):Zw (Ze (Zi prog Zh Zo true) 3000 97 [vW x,.int .i64 n] [cmp false,cmp true]) (.int .u64 0) [(decide (n≥256),true),(decide (n<0),false)]:=by and_intros<;>kernel_rfl
theorem ZzD (x:W4) (n:Int):Zw (Ze (Zi prog Zh Zo true) 3000 97 [vW x,.int .i64 n] [cmp false,cmp false,num 0]) (.int .u64 (ZpN (dn' x.a n))) (lu n::lb n 0):=by and_intros<;>kernel_rfl
theorem ZzE (x:W4) (n:Int):Zw (Ze (Zi prog Zh Zo true) 3000 97 [vW x,.int .i64 n] [cmp false,cmp false,num 1]) (.int .u64 (ZpN (dn' x.b n))) (lu n::lb n 1):=by and_intros<;>kernel_rfl
theorem ZzF (x:W4) (n:Int):Zw (Ze (Zi prog Zh Zo true) 3000 97 [vW x,.int .i64 n] [cmp false,cmp false,num 2]) (.int .u64 (ZpN (dn' x.c n))) (lu n::lb n 2):=by and_intros<;>kernel_rfl
theorem ZzG (x:W4) (n:Int):Zw (Ze (Zi prog Zh Zo true) 3000 97 [vW x,.int .i64 n] [cmp false,cmp false,num 3]) (.int .u64 (ZpN (dn' x.d n))) (lu n::lb n 3):=by and_intros<;>kernel_rfl
def Zkg (x:W4) (n:Int):Int:=if n<0 then 0 else if 256≤n then 0 else x.val/2^n.toNat % 2
def Zr8 (x:W4) (n:Int):Value:= .int .u64 (Zkg x n)
theorem Zns {n k:Int}(h1:¬ n<0) (h2:¬ 256≤n) (h3:n/64=k):Zx (lb n k):=by
 refine ZG (by rfl) (ZG (Xa ?_) (ZG (Xb h2) (ZdF (Xb h1))));rw[Int.tdiv_eq_ediv_of_nonneg (by omega),ZR (by omega) (by omega)];exact h3
theorem Zgi {x:W4}{n:Int}{a b:Int}(hn:0≤n) (ha:0≤a∧a<18446744073709551616) (hb:0≤b∧b<18446744073709551616) (h:(W4.of (x.val/2^n.toNat)).a=orr (dn' a n) (up' b n)):
  ZpN (dn' a n)=x.val/2^n.toNat % 2:=by
 obtain⟨l,o,d,s,m,l0,l1,e⟩:=zH hn ha hb;have ev:=Znm hn hb;rw[Zkf d.1 d.2];rw[o] at h;unfold W4.of at h;dsimp only at h;omega
theorem Znt {x:W4}{n:Int}{a:Int}(hn:0≤n) (ha:0≤a∧a<18446744073709551616) (h:(W4.of (x.val/2^n.toNat)).a=dn' a n):ZpN (dn' a n)=x.val/2^n.toNat % 2:=by
 obtain⟨l,o,d,s,m,l0,l1,e⟩:=zH hn ha ha;rw[Zkf d.1 d.2];unfold W4.of at h;dsimp only at h;omega
set_option maxRecDepth 100000 in
theorem Zkh (x:W4) (n:Int) (hx:x.ok) (_h0: -9223372036854775808≤n) (_h9:n≤9223372036854775807) (w:World):Calls prog 97 #[vW x,.int .i64 n] w fun e w'=>e= .returned (Zr8 x n)∧zg w w':=by
 unfold Zr8 Zkg;by_cases h1:n<0
 ·rw[if_pos h1];exact Zb (Zf Zd) (Zr7 x n) (ZdF (Xa h1)) (by rfl) (by rfl) w
 ·rw[if_neg h1];by_cases h2:256≤n
  ·rw[if_pos h2];exact Zb (Zf Zd) (Znr x n) (ZG (Xa h2) (ZdF (Xb h1))) (by rfl) (by rfl) w
  ·rw[if_neg h2];have hn:0≤n:=by omega
   have u:=Zrs hn;obtain⟨k1,k2,k3,k4⟩:=hx;have hj:n/64=0∨n/64=1∨n/64=2∨n/64=3:=by omega
   rcases hj with hj | hj | hj | hj
   ·obtain⟨e1,_⟩:=ZjW (x:=x) ⟨k1,k2,k3,k4⟩ hn hj;rw[← Zgi hn k1 k2 (by rw[← e1];rfl)];exact Zb (Zf Zd) (ZzD x n) (ZG u (Zns h1 h2 hj)) (by rfl) (by rfl) w
   ·obtain⟨e1,_⟩:=ZjX (x:=x) ⟨k1,k2,k3,k4⟩ hn hj;rw[← Zgi hn k2 k3 (by rw[← e1];rfl)];exact Zb (Zf Zd) (ZzE x n) (ZG u (Zns h1 h2 hj)) (by rfl) (by rfl) w
   ·obtain⟨e1,_⟩:=ZjY (x:=x) ⟨k1,k2,k3,k4⟩ hn hj;rw[← Zgi hn k3 k4 (by rw[← e1];rfl)];exact Zb (Zf Zd) (ZzF x n) (ZG u (Zns h1 h2 hj)) (by rfl) (by rfl) w
   ·obtain⟨e1,_⟩:=ZjZ (x:=x) ⟨k1,k2,k3,k4⟩ hn hj;rw[← Znt hn k4 (by rw[← e1];rfl)];exact Zb (Zf Zd) (ZzG x n) (ZG u (Zns h1 h2 hj)) (by rfl) (by rfl) w
end Go.Proofs.YtekebccjflilnaaGreat
namespace Go.Rn
def upR (m:Int) (neg odd:Bool) (c:Int):Bool:=
 if c=0 then false else if m=2 then false else if m=3 then !neg else if m=4 then neg else if m=1 then decide (2≤c) else decide (2<c) || (decide (c=2) && odd)
def zt (r P:Nat):Int:=if r=0 then 0 else if 2*r<P then 1 else if 2*r=P then 2 else 3
def odd (q:Nat):Bool:=decide (q % 2=1)
def rq (m:Int) (neg:Bool) (T k:Nat):Nat:=T/2^k+(if upR m neg (odd (T/2^k)) (zt (T % 2^k) (2^k))=true then 1 else 0)
def toQ (m:Int) (neg:Bool) (T:Nat) (E e:Int):Nat:=if e≤E then T*2^(E-e).toNat else rq m neg T (e-E).toNat
def toL (T:Nat) (E e:Int):Bool:=if e≤E then false else decide (T % 2^(e-E).toNat≠0)
def lgN (T:Nat) (E:Int):Int:=E+(bitLen T:Nat)-1
def zr (T:Nat) (E:Int):Int:=if lgN T E-52≤ -1074 then -1074 else lgN T E-52
def p0 (m:Int) (neg:Bool) (T:Nat) (E:Int):Int:=(zr T E+1074)*4503599627370496+(toQ m neg T E (zr T E):Nat)
def ZdG (m:Int) (neg:Bool) (T:Nat) (E:Int):Bool:=if lgN T E= -1023 then decide (toQ m neg T E (-1075)<9007199254740992) else decide (lgN T E< -1022)
def bey (m:Int) (neg:Bool):Int:=if upR m neg true 3=true then 9218868437227405312 else 9218868437227405311
def rnP (m:Int) (neg:Bool) (T:Nat) (E:Int):Int:=if T=0 then 0 else if 9218868437227405312≤p0 m neg T E then bey m neg else p0 m neg T E
def rnF (m:Int) (neg:Bool) (T:Nat) (E:Int):Int:=if T=0 then 0 else if 9218868437227405312≤p0 m neg T E then 20 else if toL T E (zr T E)=true then (if ZdG m neg T E=true then 24 else 16) else 0
theorem Zbo {T:Nat}(h:T≠0):1≤bitLen T:=by unfold bitLen;rw[if_neg h];omega
theorem ZcR {T k:Nat}(h0:2^k≤T) (h1:T<2^(k+1)):bitLen T=k+1:=by
 have hp:0<2^k:=Nat.pow_pos (by omega);obtain⟨a1,a2⟩:=bitLen_spec T;have a2:=a2 (by omega);have a3:=Zbo (show T≠0 by omega);rcases Nat.lt_or_ge (bitLen T) (k+1) with h | h
 ·have:=Nat.pow_le_pow_right (show 0<2 by omega) (show bitLen T≤k by omega);omega
 ·rcases Nat.lt_or_ge (k+1) (bitLen T) with h' | h'
  ·have:=Nat.pow_le_pow_right (show 0<2 by omega) (show k+1≤bitLen T-1 by omega);omega
  ·omega
theorem ZaX {T k:Nat}(h:T<2^k):bitLen T≤k:=by
 by_cases h0:T=0
 ·subst h0;simp [bitLen]
 ·have a2:=(bitLen_spec T).2 h0;rcases Nat.lt_or_ge k (bitLen T) with h' | h'
  ·have:=Nat.pow_le_pow_right (show 0<2 by omega) (show k≤bitLen T-1 by omega);omega
  ·exact h'
theorem Zhe {T k:Nat}(h:2^k≤T):k+1≤bitLen T:=by
 have a1:=(bitLen_spec T).1;rcases Nat.lt_or_ge (bitLen T) (k+1) with h' | h'
 ·have:=Nat.pow_le_pow_right (show 0<2 by omega) (show bitLen T≤k by omega);omega
 ·exact h'
theorem Zr9 {T:Nat}(h:T≠0) (j:Nat):bitLen (T*2^j)=bitLen T+j:=by
 have hp:0<2^j:=Nat.pow_pos (by omega);obtain⟨a1,a2⟩:=bitLen_spec T;have a2:=a2 h;have a3:=Zbo h;have e:bitLen T+j=(bitLen T-1+j)+1:=by omega
 rw[e];apply ZcR
 ·rw[Nat.pow_add];exact Nat.mul_le_mul_right _ a2
 ·rw[show bitLen T-1+j+1=bitLen T+j by omega,Nat.pow_add];exact Nat.mul_lt_mul_of_pos_right a1 hp
theorem Znu (m:Int) (neg o:Bool):upR m neg o 0=false:=by simp [upR]
theorem Zil (P:Nat):zt 0 P=0:=by simp [zt]
theorem Zfx {r P:Nat}:zt r P=0↔r=0:=by
 unfold zt;split
 ·simp_all
 ·rename_i h;simp only[h,iff_false];split<;>(try split)<;>omega
theorem Zgj (r P j:Nat):zt (r*2^j) (P*2^j)=zt r P:=by
 have hp:0<2^j:=Nat.pow_pos (by omega);unfold zt;have e0:(r*2^j=0)↔r=0:=by rw[Nat.mul_eq_zero];omega
 have e1:(2*(r*2^j)<P*2^j)↔2*r<P:=by rw[← Nat.mul_assoc];exact Nat.mul_lt_mul_right hp
 have e2:(2*(r*2^j)=P*2^j)↔2*r=P:=by rw[← Nat.mul_assoc];exact Nat.mul_left_inj (by omega)
 simp only[e0,e1,e2]
theorem Zvi (m:Int) (neg:Bool) (T k:Nat):T/2^k≤rq m neg T k∧rq m neg T k≤T/2^k+1:=by unfold rq;split<;>omega
theorem Ze9 {m:Int}{neg:Bool}{T k:Nat}(h:T % 2^k=0):rq m neg T k=T/2^k:=by
 unfold rq;rw[h,Zil,Znu];simp
theorem Znv (m:Int) (neg:Bool) (T k j:Nat):rq m neg (T*2^j) (k+j)=rq m neg T k:=by
 have hp:0<2^j:=Nat.pow_pos (by omega);unfold rq;rw[Nat.pow_add,Nat.mul_div_mul_right _ _ hp,Nat.mul_mod_mul_right,Zgj]
theorem Zfy (m:Int) (neg:Bool) (T j:Nat) (E e:Int):toQ m neg (T*2^j) (E-j) e=toQ m neg T E e:=by
 unfold toQ;by_cases h1:e≤E
 ·rw[if_pos h1];by_cases h2:e≤E-j
  ·rw[if_pos h2,Nat.mul_assoc,← Nat.pow_add];congr 2;omega
  ·rw[if_neg h2];have ej:j=(E-e).toNat+(e-(E-j)).toNat:=by omega
   have e1:T*2^j=T*2^(E-e).toNat*2^(e-(E-j)).toNat:=by rw[Nat.mul_assoc,← Nat.pow_add,← ej]
   have hp:0<2^(e-(E-j)).toNat:=Nat.pow_pos (by omega);rw[e1,Ze9 (Nat.mul_mod_left _ _),Nat.mul_div_cancel _ hp]
 ·rw[if_neg h1,if_neg (by omega),show (e-(E-j)).toNat=(e-E).toNat+j by omega,Znv]
theorem Zki (T j:Nat) (E e:Int):toL (T*2^j) (E-j) e=toL T E e:=by
 have hp:0<2^j:=Nat.pow_pos (by omega);unfold toL;by_cases h1:e≤E
 ·rw[if_pos h1];by_cases h2:e≤E-j
  ·rw[if_pos h2]
  ·rw[if_neg h2];have ej:j=(E-e).toNat+(e-(E-j)).toNat:=by omega
   have e1:T*2^j=T*2^(E-e).toNat*2^(e-(E-j)).toNat:=by rw[Nat.mul_assoc,← Nat.pow_add,← ej]
   rw[e1,Nat.mul_mod_left];simp
 ·rw[if_neg h1,if_neg (by omega),show (e-(E-j)).toNat=(e-E).toNat+j by omega,Nat.pow_add,Nat.mul_mod_mul_right];congr 1;rw[ne_eq,ne_eq,Nat.mul_eq_zero];simp only[eq_iff_iff];omega
theorem Zfz {T:Nat}(h:T≠0) (j:Nat) (E:Int):lgN (T*2^j) (E-j)=lgN T E:=by
 unfold lgN;rw[Zr9 h];omega
theorem Zeb {T:Nat}(h:T≠0) (j:Nat) (E:Int):zr (T*2^j) (E-j)=zr T E:=by unfold zr;rw[Zfz h]
theorem Zhf {T:Nat}(h:T≠0) (m:Int) (neg:Bool) (j:Nat) (E:Int):p0 m neg (T*2^j) (E-j)=p0 m neg T E:=by unfold p0;rw[Zeb h,Zfy]
theorem Zim {T:Nat}(h:T≠0) (m:Int) (neg:Bool) (j:Nat) (E:Int):ZdG m neg (T*2^j) (E-j)=ZdG m neg T E:=by unfold ZdG;rw[Zfz h,Zfy]
theorem Zhg {T:Nat}(j:Nat):(T*2^j=0)=(T=0):=by
 have hp:0<2^j:=Nat.pow_pos (by omega);rw[Nat.mul_eq_zero];simp only[eq_iff_iff];omega
theorem ZaA (m:Int) (neg:Bool) (T j:Nat) (E:Int):rnP m neg (T*2^j) (E-j)=rnP m neg T E:=by
 unfold rnP;simp only[Zhg];by_cases h:T=0
 ·rw[if_pos h,if_pos h]
 ·rw[if_neg h,if_neg h,Zhf h]
theorem ZaB (m:Int) (neg:Bool) (T j:Nat) (E:Int):rnF m neg (T*2^j) (E-j)=rnF m neg T E:=by
 unfold rnF;simp only[Zhg];by_cases h:T=0
 ·rw[if_pos h,if_pos h]
 ·rw[if_neg h,if_neg h,Zhf h,Zim h,Zeb h,Zki]
end Go.Rn
namespace Go.Pt
open Go.IntKind
def Zf0 (x y:Int):Int:=u64.wrap ((BitVec.ofInt 64 x &&& BitVec.ofInt 64 y).toNat:Nat)
def bOr (x y:Int):Int:=u64.wrap ((BitVec.ofInt 64 x ||| BitVec.ofInt 64 y).toNat:Nat)
def Zf1 (x y:Int):Int:=u64.wrap ((BitVec.ofInt 64 x ^^^ BitVec.ofInt 64 y).toNat:Nat)
def Zm7 (x y:Int):Int:=u64.wrap ((BitVec.ofInt 64 x &&& ~~~(BitVec.ofInt 64 y)).toNat:Nat)
abbrev U (p:Int):Prop:=0≤p∧p<18446744073709551616
abbrev I (n:Int):Prop:= -9223372036854775808≤n∧n≤9223372036854775807
theorem ZzH (n:Int):u64.wrap n=n % 18446744073709551616:=by simp [IntKind.wrap,IntKind.bits,IntKind.signed]
theorem wrapU' {n:Int}(h:U n):u64.wrap n=n:=by rw[ZzH];unfold U at h;omega
theorem ZY {n:Int}(h:I n):i64.wrap n=n:=by
 unfold I at h;simp [IntKind.wrap,IntKind.bits,IntKind.signed];omega
theorem ofU {Z:Nat}(h:Z<18446744073709551616):(BitVec.ofInt 64 (Z:Int)).toNat=Z:=by simp;omega
theorem Zkj {V:BitVec 64}:u64.wrap (V.toNat:Nat)=(V.toNat:Int):=by
 have:=V.isLt;exact wrapU' ⟨by omega,by omega⟩
theorem Znw (x k j:Nat):x &&& (2^k*(2^j-1))=2^k*(x/2^k % 2^j):=by
 refine Nat.eq_of_testBit_eq fun i=> ?_;rw[Nat.testBit_and,Nat.testBit_two_pow_mul,Nat.testBit_two_pow_sub_one,Nat.testBit_two_pow_mul,Nat.testBit_mod_two_pow,Nat.testBit_div_two_pow];by_cases h:k≤i
 ·have e:k+(i-k)=i:=by omega
  have e':i-k+k=i:=by omega
  simp [h,e',Bool.and_comm]
 ·simp [h]
theorem Zdt {p m:Int}(k j:Nat) (hp:U p) (hm:m=((2^k*(2^j-1):Nat):Int)) (hk:2^k*(2^j-1)<18446744073709551616):Zf0 p m=2^k*(p/2^k % 2^j):=by
 obtain⟨h0,h1⟩:=hp;obtain⟨Z,rfl⟩:=Int.eq_ofNat_of_zero_le h0;unfold Zf0;rw[Zkj,BitVec.toNat_and,ofU (by omega),hm,ofU hk,Znw];simp
theorem ZpO {p q:Int}(k:Nat) {z:Int}(hz:0≤z) (hq:q=2^k*z) (hp:0≤p) (hk:p<2^k) (hs:q+p<18446744073709551616):bOr p q=q+p:=by
 obtain⟨Z,rfl⟩:=Int.eq_ofNat_of_zero_le hz;obtain⟨Y,rfl⟩:=Int.eq_ofNat_of_zero_le hp;have ex:(2:Int)^k*(Z:Nat)=((2^k*Z:Nat):Int):=by simp
 have hY:Y<2^k:=by
  have:((Y:Nat):Int)<((2^k:Nat):Int):=by simpa using hk
  exact Int.ofNat_lt.1 this
 subst hq;rw[ex] at hs ⊢;have hX:2^k*Z+Y<18446744073709551616:=by omega
 unfold bOr;rw[Zkj,BitVec.toNat_or,ofU (by omega),ofU (by omega),Nat.or_comm,← Nat.two_pow_add_eq_or_of_lt hY];omega
theorem Zkk {p:Int}(hp:U p):Zm7 p 9223372036854775808=p % 9223372036854775808:=by
 obtain⟨h0,h1⟩:=hp;obtain⟨Z,rfl⟩:=Int.eq_ofNat_of_zero_le h0;unfold Zm7;have e:(~~~(BitVec.ofInt 64 9223372036854775808)).toNat=2^63-1:=by decide
 rw[Zkj,BitVec.toNat_and,ofU (by omega),e,Nat.and_two_pow_sub_one_eq_mod];omega
theorem Zhh (r:Nat) (h:r<2^63):r ^^^ 2^63=2^63+r:=by
 have e:2^63+r=2^63 ||| r:=by
  have:=Nat.two_pow_add_eq_or_of_lt h 1;simpa using this
 rw[e];refine Nat.eq_of_testBit_eq fun i=> ?_;rw[Nat.testBit_xor,Nat.testBit_or,Nat.testBit_two_pow];by_cases hi:63=i
 ·subst hi;rw[Nat.testBit_lt_two_pow h];simp
 ·simp [hi]
theorem Zf2 {p:Int}(hp:U p):Zf1 p 9223372036854775808=(p+9223372036854775808) % 18446744073709551616:=by
 obtain⟨h0,h1⟩:=hp;obtain⟨Z,rfl⟩:=Int.eq_ofNat_of_zero_le h0;unfold Zf1;have e:(BitVec.ofInt 64 9223372036854775808).toNat=2^63:=by decide
 rw[Zkj,BitVec.toNat_xor,ofU (by omega),e];by_cases hz:Z<2^63
 ·rw[Zhh Z hz];omega
 ·have h2:=Zhh (Z-2^63) (by omega);have e2:Z=(Z-2^63) ^^^ 2^63:=by rw[h2];omega
  have e3:Z ^^^ 2^63=Z-2^63:=by
   rw[e2,Nat.xor_assoc,Nat.xor_self,Nat.xor_zero,← e2]
  rw[e3];omega
theorem Zkl {p:Int}(hp:U p):Zf0 p 4503599627370495=p % 4503599627370496:=by
 rw[Zdt 0 52 hp (by rfl) (by decide)];simp
theorem Zf3 {p:Int}(hp:U p):Zf0 p 9223372036854775808=9223372036854775808*(p/9223372036854775808 % 2):=Zdt 63 1 hp (by rfl) (by decide)
theorem Zin {p:Int}(hp:U p):Zf0 p 2251799813685248=2251799813685248*(p/2251799813685248 % 2):=Zdt 51 1 hp (by rfl) (by decide)
def sgn (p:Int):Bool:=decide (9223372036854775808≤p)
def mag (p:Int):Int:=p % 9223372036854775808
def ex (p:Int):Int:=p/4503599627370496 % 2048
def fr (p:Int):Int:=p % 4503599627370496
def cl (p:Int):Int:=if ex p=0 then (if fr p=0 then 0 else 1) else if ex p=2047 then (if fr p=0 then 3 else if 2251799813685248≤fr p then 4 else 5) else 2
def xp (p:Int):Int:=if ex p=0 then -1074 else if ex p=2047 then 0 else ex p-1075
def sg (p:Int):Int:=if ex p=0 then fr p else if ex p=2047 then fr p else fr p+4503599627370496
theorem Zvj (p:Int):mag p/4503599627370496=ex p:=by unfold mag ex;omega
theorem Zio (p:Int):0≤ex p∧ex p<2048:=by unfold ex;omega
theorem Zgk (p:Int):0≤fr p∧fr p<4503599627370496:=by unfold fr;omega
end Go.Pt
namespace Go.Rn
open Go.Pt
theorem Zhi {m:Int}{neg:Bool}{T:Nat}{E e:Int}{n:Nat}(h:(bitLen T:Int)+(E-e)≤n):toQ m neg T E e≤2^n:=by
 have a1:=(bitLen_spec T).1;unfold toQ;by_cases he:e≤E
 ·rw[if_pos he];have hp:0<2^(E-e).toNat:=Nat.pow_pos (by omega);have:=Nat.mul_le_mul_right (2^(E-e).toNat) (Nat.le_of_lt a1);rw[← Nat.pow_add] at this;have h2:=Nat.pow_le_pow_right (show 0<2 by omega) (show bitLen T+(E-e).toNat≤n by omega);omega
 ·rw[if_neg he];have b:=(Zvi m neg T (e-E).toNat).2;have h2:=Nat.pow_le_pow_right (show 0<2 by omega) (show bitLen T≤n+(e-E).toNat by omega);have h3:T/2^(e-E).toNat<2^n:=by
   apply Nat.div_lt_of_lt_mul;rw[Nat.pow_add,Nat.mul_comm] at h2;omega
  omega
theorem ZpP {m:Int}{neg:Bool}{T:Nat}{E e:Int}{n:Nat}(hT:T≠0) (h:(n:Int)+1≤(bitLen T:Int)+(E-e)):2^n≤toQ m neg T E e:=by
 have a2:=(bitLen_spec T).2 hT;have a3:=Zbo hT;unfold toQ;by_cases he:e≤E
 ·rw[if_pos he];have:=Nat.mul_le_mul_right (2^(E-e).toNat) a2;rw[← Nat.pow_add] at this;have h2:=Nat.pow_le_pow_right (show 0<2 by omega) (show n≤bitLen T-1+(E-e).toNat by omega);omega
 ·rw[if_neg he];have b:=(Zvi m neg T (e-E).toNat).1;have hp:0<2^(e-E).toNat:=Nat.pow_pos (by omega);have h2:=Nat.pow_le_pow_right (show 0<2 by omega) (show n+(e-E).toNat≤bitLen T-1 by omega);have h3:2^n≤T/2^(e-E).toNat:=by
   rw[Nat.le_div_iff_mul_le hp,← Nat.pow_add];omega
  omega
theorem Zf4 (m:Int) (neg:Bool) (T:Nat) (E:Int):toQ m neg T E (zr T E)≤9007199254740992:=by
 refine Zhi (n:=53) ?_;unfold zr lgN;split<;>omega
theorem Zkm {m:Int}{neg:Bool}{T:Nat}{E:Int}(hT:T≠0) (h: -1074≤lgN T E-52):4503599627370496≤toQ m neg T E (zr T E):=by
 refine ZpP (n:=52) hT ?_;unfold zr lgN at*;split<;>omega
theorem ZeA (T:Nat) (E:Int): -1074≤zr T E:=by unfold zr;split<;>omega
theorem Zf5 (m:Int) (neg:Bool) (T:Nat) (E:Int):0≤p0 m neg T E:=by
 have:=ZeA T E;unfold p0;omega
theorem ZpQ (m:Int) (neg:Bool):bey m neg=9218868437227405312∨bey m neg=9218868437227405311:=by unfold bey;split<;>simp
theorem Zvk (m:Int) (neg:Bool) (T:Nat) (E:Int):0≤rnP m neg T E∧rnP m neg T E≤9218868437227405312:=by
 have h:=Zf5 m neg T E;have hb:=ZpQ m neg;unfold rnP;split
 ·omega
 ·split<;>omega
end Go.Rn
namespace Go.Wd
open Go.Rn
def W4.nat (x:W4):Nat:=x.val.toNat
theorem W4.nat_val {x:W4}(h:x.ok):x.val=(x.nat:Int):=by
 have:=(W4.val_bd h).1;unfold W4.nat;omega
theorem W4.nat_lt {x:W4}(h:x.ok):x.nat<2^256:=by
 have:=W4.val_bd h;have e:(2:Nat)^256=115792089237316195423570985008687907853269984665640564039457584007913129639936:=rfl;unfold W4.nat;omega
def ofN (n:Nat):W4:=W4.of (n:Int)
theorem ZZ (n:Nat):(ofN n).ok:=W4.ok_of _
theorem zX {n:Nat}(h:n<2^256):(ofN n).nat=n:=by
 have e:(2:Nat)^256=115792089237316195423570985008687907853269984665640564039457584007913129639936:=rfl;unfold W4.nat ofN;rw[W4.val_of];omega
theorem ZbV {x:W4}(h:x.ok):ofN x.nat=x:=by
 unfold ofN;rw[← W4.nat_val h,W4.of_val h]
theorem Zvl (n:Int):W4.of (n % 115792089237316195423570985008687907853269984665640564039457584007913129639936)=W4.of n:=by
 unfold W4.of;refine W4.ext' ?_ ?_ ?_ ?_<;>dsimp only<;>omega
theorem Zgl (n:Nat):ofN (n % 2^256)=ofN n:=by
 have e:(2:Nat)^256=115792089237316195423570985008687907853269984665640564039457584007913129639936:=rfl;unfold ofN;rw[← Zvl (n:Int),e];congr 1
theorem ZbW:ofN 0=⟨0,0,0,0⟩:=by rfl
theorem ZrA {n k:Nat}(h:256≤k):ofN (n*2^k)=⟨0,0,0,0⟩:=by
 rw[← Zgl];have:n*2^k % 2^256=0:=by
  obtain⟨j,rfl⟩:∃ j,k=j+256:=⟨k-256,by omega⟩;rw[Nat.pow_add,← Nat.mul_assoc,Nat.mul_mod_left]
 rw[this,ZbW]
theorem Zgm (n k:Nat):ofN (n % 2^256*k)=ofN (n*k):=by
 rw[← Zgl (n % 2^256*k),← Zgl (n*k),Nat.mod_mul_mod]
theorem Zf6 {n k:Nat}(h:n<2^256) (hk:256≤k):n/2^k=0:=by
 have:=Nat.pow_le_pow_right (show 0<2 by omega) hk;exact Nat.div_eq_of_lt (by omega)
theorem Zkn {n k:Nat}(h:n<2^256) (hk:256≤k):n % 2^k=n:=by
 have:=Nat.pow_le_pow_right (show 0<2 by omega) hk;exact Nat.mod_eq_of_lt (by omega)
theorem ZaQ (k:Nat):((2:Int)^k)=((2^k:Nat):Int):=by simp
def tw (x:W4) (b:Bool):Nat:=2*x.nat+(match b with | true=>1 | false=>0)
theorem Zko (x:W4) (b:Bool) (d:Nat):tw x b/2^(d+1)=x.nat/2^d:=by
 unfold tw;rw[Nat.pow_succ,Nat.mul_comm (2^d) 2,← Nat.div_div_eq_div_mul];congr 1;cases b<;>simp only<;>omega
theorem Zf7 (x:W4) (b:Bool) (d:Nat):tw x b % 2^(d+1)=2*(x.nat % 2^d)+(match b with | true=>1 | false=>0):=by
 unfold tw;rw[Nat.pow_succ,Nat.mul_comm (2^d) 2,Nat.mod_mul];have e:(2*x.nat+(match b with | true=>1 | false=>0))/2=x.nat:=by cases b<;>simp only<;>omega
 rw[e];cases b<;>simp only<;>omega
theorem Zkp {x:W4}{b:Bool}(h:x.ok):tw x b=0↔(eqW x ⟨0,0,0,0⟩ && !b)=true:=by
 have e:x.nat=0↔x=⟨0,0,0,0⟩:=by
  constructor
  ·intro h0;rw[← ZbV h,h0,ZbW]
  ·intro h0;rw[h0];rfl
 rw[Xh,Zbi,← e];unfold tw;cases b<;>simp<;>omega
theorem ZrB {x:W4}{d:Nat}(h:x.nat % 2^d=0):zt (tw x false % 2^(d+1)) (2^(d+1))=0:=by
 rw[Zf7,h];simp [zt]
theorem ZrC {x:W4}:zt (tw x true % 2^(0+1)) (2^(0+1))=2:=by
 rw[Zf7];simp [zt,Nat.mod_one]
theorem ZeB (V j:Nat):V % 2^(j+1)=V % 2^j+2^j*(V/2^j % 2):=by rw[Nat.pow_succ,Nat.mod_mul]
theorem Zhj {x:W4}{b:Bool}{j:Nat}(h:x.nat/2^j % 2=0) (h0:x.nat % 2^(j+1)≠0∨b=true):zt (tw x b % 2^(j+1+1)) (2^(j+1+1))=1:=by
 have hp:0<2^j:=Nat.pow_pos (by omega);have hm:=ZeB x.nat j;rw[h,Nat.mul_zero,Nat.add_zero] at hm;have hl:=Nat.mod_lt x.nat hp;rw[hm] at h0;rw[Zf7,hm,Nat.pow_succ,Nat.pow_succ];unfold zt;cases b
 ·simp only[Bool.false_eq_true,or_false] at*;rw[if_neg (by omega),if_pos (by omega)]
 ·simp only;rw[if_neg (by omega),if_pos (by omega)]
theorem ZeC {x:W4}{b:Bool}{j:Nat}(h:x.nat/2^j % 2=1) (h0:x.nat % 2^j≠0∨b=true):zt (tw x b % 2^(j+1+1)) (2^(j+1+1))=3:=by
 have hp:0<2^j:=Nat.pow_pos (by omega);have hm:=ZeB x.nat j;rw[h,Nat.mul_one] at hm;rw[Zf7,hm,Nat.pow_succ,Nat.pow_succ];unfold zt;cases b
 ·simp only[Bool.false_eq_true,or_false] at*;rw[if_neg (by omega),if_neg (by omega),if_neg (by omega)]
 ·simp only;rw[if_neg (by omega),if_neg (by omega),if_neg (by omega)]
theorem ZrD {x:W4}{j:Nat}(h:x.nat/2^j % 2=1) (h0:x.nat % 2^j=0):zt (tw x false % 2^(j+1+1)) (2^(j+1+1))=2:=by
 have hp:0<2^j:=Nat.pow_pos (by omega);have hm:=ZeB x.nat j;rw[h,h0,Nat.mul_one] at hm;rw[Zf7,hm,Nat.pow_succ,Nat.pow_succ];unfold zt;simp only;rw[if_neg (by omega),if_neg (by omega),if_pos (by omega)]
theorem Znx {x:W4}(hx:x.ok) {j:Nat}(h:x.nat/2^j % 2=1):eqW x (ofN ((2*(x.nat/2^(j+1))+1)*2^j))=decide (x.nat % 2^j=0):=by
 have hl:=W4.nat_lt hx;have hm:=ZeB x.nat j;rw[h,Nat.mul_one] at hm;have hd:=Nat.div_add_mod x.nat (2^(j+1));have e:(2*(x.nat/2^(j+1))+1)*2^j=x.nat-x.nat % 2^j:=by
  rw[Nat.pow_succ] at hd hm ⊢;rw[Nat.add_mul,Nat.one_mul,Nat.mul_comm 2,Nat.mul_assoc,Nat.mul_comm 2,Nat.mul_comm];omega
 rw[e,Bool.eq_iff_iff,Zbi,Xi];have hle:x.nat % 2^j≤x.nat:=Nat.mod_le _ _;constructor
 ·intro hh;have:=congrArg W4.nat hh;rw[zX (by omega)] at this;omega
 ·intro hh;rw[hh,Nat.sub_zero,ZbV hx]
end Go.Wd
namespace Go.Proofs.YtekebccjflilnaaGreat
open Go.Proofs.Tryz
open Go.IntKind
open Go.KRun Go.Wd Go.Pt Go.Rn
set_option maxRecDepth 100000
theorem u0 (c m:Int) (o n:Bool):Zw (Ze (Zi prog Zh Zo true) 300 96 [.int .i64 c,.bool o,.bool n,.int .i64 m] [cmp true]) (Value.bool false) [(c==0,true)]:=by and_intros<;>kernel_rfl
theorem u2 (c m:Int) (o n:Bool):Zw (Ze (Zi prog Zh Zo true) 300 96 [.int .i64 c,.bool o,.bool n,.int .i64 m] [cmp false,cmp true]) (Value.bool false) [(m==2,true),(c==0,false)]:=by and_intros<;>kernel_rfl
theorem u3 (c m:Int) (o n:Bool):Zw (Ze (Zi prog Zh Zo true) 300 96 [.int .i64 c,.bool o,.bool n,.int .i64 m] [cmp false,cmp false,cmp true]) (Value.bool !n) [(m==3,true),(m==2,false),(c==0,false)]:=by and_intros<;>kernel_rfl
theorem u4 (c m:Int) (o n:Bool):Zw (Ze (Zi prog Zh Zo true) 300 96 [.int .i64 c,.bool o,.bool n,.int .i64 m] [cmp false,cmp false,cmp false,cmp true]) (Value.bool n) [(m==4,true),(m==3,false),(m==2,false),(c==0,false)]:=by and_intros<;>kernel_rfl
theorem u1 (c m:Int) (o n:Bool):Zw (Ze (Zi prog Zh Zo true) 300 96 [.int .i64 c,.bool o,.bool n,.int .i64 m] [cmp false,cmp false,cmp false,cmp false,cmp true]) (Value.bool (decide (c≥2))) [(m==1,true),(m==4,false),(m==3,false),(m==2,false),(c==0,false)]:=by and_intros<;>kernel_rfl
theorem ua (c m:Int) (o n:Bool):Zw (Ze (Zi prog Zh Zo true) 300 96 [.int .i64 c,.bool o,.bool n,.int .i64 m] [cmp false,cmp false,cmp false,cmp false,cmp false,cmp true]) (Value.bool true) [(decide (c>2),true),(m==1,false),(m==4,false),(m==3,false),(m==2,false),(c==0,false)]:=by and_intros<;>kernel_rfl
theorem ub (c m:Int) (o n:Bool):Zw (Ze (Zi prog Zh Zo true) 300 96 [.int .i64 c,.bool o,.bool n,.int .i64 m] [cmp false,cmp false,cmp false,cmp false,cmp false,cmp false,cmp true]) (Value.bool o) [(c==2,true),(decide (c>2),false),(m==1,false),(m==4,false),(m==3,false),(m==2,false),(c==0,false)]:=by and_intros<;>kernel_rfl
theorem uc (c m:Int) (o n:Bool):Zw (Ze (Zi prog Zh Zo true) 300 96 [.int .i64 c,.bool o,.bool n,.int .i64 m] [cmp false,cmp false,cmp false,cmp false,cmp false,cmp false,cmp false]) (Value.bool false) [(c==2,false),(decide (c>2),false),(m==1,false),(m==4,false),(m==3,false),(m==2,false),(c==0,false)]:=by and_intros<;>kernel_rfl
def gUp:Ans:=fun vals s=>
 match vals with
 | [.int .i64 c,.bool o,.bool n,.int .i64 m]=>some (.bool (upR m n o c),s,[])
 | _=>none
theorem Zny (c m:Int) (o n:Bool) (w:World):Calls prog 96 #[.int .i64 c,.bool o,.bool n,.int .i64 m] w fun e w'=>e= .returned (.bool (upR m n o c))∧zg w w':=by
 unfold upR;by_cases h0:c=0
 ·rw[if_pos h0];exact Zb (Zf Zd) (u0 c m o n) (by simp [Zea,Zka,h0]) (by rfl) (by rfl) w
 ·rw[if_neg h0];by_cases h2:m=2
  ·rw[if_pos h2];exact Zb (Zf Zd) (u2 c m o n) (by simp [Zea,Zka,h0,h2]) (by rfl) (by rfl) w
  ·rw[if_neg h2];by_cases h3:m=3
   ·rw[if_pos h3];exact Zb (Zf Zd) (u3 c m o n) (by simp [Zea,Zka,h0,h3]) (by rfl) (by rfl) w
   ·rw[if_neg h3];by_cases h4:m=4
    ·rw[if_pos h4];exact Zb (Zf Zd) (u4 c m o n) (by simp [Zea,Zka,h0,h4]) (by rfl) (by rfl) w
    ·rw[if_neg h4];by_cases h1:m=1
     ·rw[if_pos h1];exact Zb (Zf Zd) (u1 c m o n) (by simp [Zea,Zka,h0,h1]) (by rfl) (by rfl) w
     ·rw[if_neg h1];by_cases ha:2<c
      ·have e:(decide (2<c) || (decide (c=2) && o))=true:=by simp [ha]
       rw[e];exact Zb (Zf Zd) (ua c m o n) (by simp [Zea,Zka,h0,h1,h2,h3,h4,ha]) (by rfl) (by rfl) w
      ·by_cases hb:c=2
       ·have e:(decide (2<c) || (decide (c=2) && o))=o:=by simp [hb]
        rw[e];exact Zb (Zf Zd) (ub c m o n) (by simp [Zea,Zka,h1,h2,h3,h4,hb]) (by rfl) (by rfl) w
       ·have e:(decide (2<c) || (decide (c=2) && o))=false:=by simp [ha,hb]
        rw[e];exact Zb (Zf Zd) (uc c m o n) (by simp [Zea,Zka,h0,h1,h2,h3,h4,hb];omega) (by rfl) (by rfl) w
theorem Zvm:ZJ 96 gUp:=by
 intro vals s v s' lg h hl w;unfold gUp at h;split at h
 ·cases h;exact Zny _ _ _ _ w
 ·cases h
def ZzI:Con:=alt 72 (g1n (Za3 Zgd)) (alt 103 (g1n ZzB) (alt 97 (g1n (Za3 Zr8)) (alt 93 (g1 Zkd) (alt 104 (g2 (Zdo Zrg)) Zo))))
theorem Zkq:ConOk ZzI:=Zy func72 rfl (zN Zbm) (Zy func103 rfl Zru (Zy func97 rfl (zN Zkh) (Zy func93 rfl (Zr6 Zct) (Zy func104 rfl (Zbk Zft) Zd))))
theorem ZcS {x:W4}(hx:x.ok) {n:Int}(hn:0≤n):Zac x n=ofN (x.nat*2^n.toNat):=by
 unfold Zac;by_cases h1:n<1
 ·have:n=0:=by omega
  subst this;rw[if_pos h1];simp [ZbV hx]
 ·rw[if_neg h1];by_cases h2:256≤n
  ·rw[if_pos h2,ZrA (by omega)]
  ·rw[if_neg h2,W4.nat_val hx,ZaQ];unfold ofN;congr 1
theorem ZeD {x:W4}(hx:x.ok) {n:Int}(hn:0≤n):Zfe x n=ofN (x.nat/2^n.toNat):=by
 unfold Zfe;by_cases h1:n<1
 ·have:n=0:=by omega
  subst this;rw[if_pos h1];simp [ZbV hx]
 ·rw[if_neg h1];by_cases h2:256≤n
  ·rw[if_pos h2,Zf6 (W4.nat_lt hx) (by omega),ZbW]
  ·rw[if_neg h2,W4.nat_val hx,ZaQ];unfold ofN;congr 1
theorem Zhk {x:W4}(hx:x.ok) {n:Int}(hn:0≤n):Zfw x n=decide (x.nat % 2^n.toNat≠0):=by
 unfold Zfw;by_cases h1:n<1
 ·have:n=0:=by omega
  subst this;rw[if_pos h1];simp [Nat.mod_one]
 ·rw[if_neg h1];by_cases h2:256≤n
  ·rw[if_pos h2,Zkn (W4.nat_lt hx) (by omega),W4.nat_val hx];congr 1;simp
  ·rw[if_neg h2,W4.nat_val hx,ZaQ];congr 1;have:((x.nat:Int) % ((2^n.toNat:Nat):Int))=((x.nat % 2^n.toNat:Nat):Int):=rfl;rw[this];simp only[ne_eq,eq_iff_iff];omega
theorem ZeE {x:W4}(hx:x.ok) {n:Int}(hn:0≤n):Zkg x n=((x.nat/2^n.toNat % 2:Nat):Int):=by
 unfold Zkg;rw[if_neg (by omega)];by_cases h2:256≤n
 ·rw[if_pos h2,Zf6 (W4.nat_lt hx) (by omega)];rfl
 ·rw[if_neg h2,W4.nat_val hx,ZaQ];rfl
def hv (x:W4) (b:Bool):W4:=match b with | true=>⟨bOr (Zac x 1).a 1,(Zac x 1).b,(Zac x 1).c,(Zac x 1).d⟩ | false=>Zac x 1
def Z2H (x:W4):Bool×Bool:=(decide (x.ok∧(-9223372036854775808:Int)≤1∧(1:Int)≤9223372036854775807),true)
theorem ZrE (x:W4) (b:Bool):Zw (Ze (Zi prog Zh ZzI true) 300 94 [vW x,.bool b] []) (vW (hv x b)) [Z2H x]:=by
 cases b<;>exact by and_intros<;>kernel_rfl
theorem Znz (x y:Int):bOr x y=bOr y x:=by unfold bOr;rw[BitVec.or_comm]
theorem ZzJ {x:W4}(hx:x.ok) (b:Bool):hv x b=ofN (tw x b):=by
 have e1:=ZcS hx (n:=1) (by omega);have e2:x.nat*2^(1:Int).toNat=2*x.nat:=by simp [Nat.mul_comm]
 rw[e2] at e1;cases b
 ·unfold hv tw;simp only[Nat.add_zero];exact e1
 ·unfold hv tw;simp only;rw[e1];have e3:bOr (ofN (2*x.nat)).a 1=(ofN (2*x.nat)).a+1:=by
   have hb:0≤(ofN (2*x.nat)).a∧(ofN (2*x.nat)).a<18446744073709551616:=(ZZ _).1;have hev:(ofN (2*x.nat)).a % 2=0:=by unfold ofN W4.of;dsimp only;omega
   rw[Znz,ZpO 1 (z:=(ofN (2*x.nat)).a/2) (by omega) (by omega) (by omega) (by decide) (by omega)]
  rw[e3];unfold ofN W4.of;refine W4.ext' ?_ ?_ ?_ ?_<;>dsimp only<;>omega
def gHv:Ans:=fun vals s=>
 match vals with
 | [x,.bool b]=>
  match w4 x with
  | some a=>some (vW (ofN (tw a b)),s,[(decide a.ok,true)])
  | none=>none
 | _=>none
theorem Zvn:ZJ 94 gHv:=by
 intro vals s v s' lg h hl w;unfold gHv at h;split at h
 ·split at h
  ·rename_i a ha;cases h;have h1:a.ok:=Xc (hl _ Xf);rw[ZbG ha,← ZzJ h1];exact Zb (Zf Zkq) (ZrE a _) (Zz (Xa ⟨h1,by omega,by omega⟩)) (by rfl) (by rfl) w
  ·cases h
 ·cases h
def ZpR:Con:=alt 94 gHv ZzI
theorem ZaR:ConOk ZpR:=Zy func94 rfl Zvn Zkq
def vN (n:Bool) (e:Int) (x:W4) (b:Bool):Value:= .agg #[.bool n,.int .i64 e,.int .u64 x.a,.int .u64 x.b,.int .u64 x.c,.int .u64 x.d,.bool b]
def n7:Value→Option (Bool×Int×W4×Bool)
 | .agg cs=>
  match cs.toList with
  | [.bool n,.int .i64 e,.int .u64 a,.int .u64 b,.int .u64 c,.int .u64 d,.bool m]=>some (n,e,⟨a,b,c,d⟩,m)
  | _=>none
 | _=>none
theorem zw {v:Value}{n m:Bool}{e:Int}{x:W4}(h:n7 v=some (n,e,x,m)):v=vN n e x m:=by
 unfold n7 at h;split at h
 ·rename_i cs;split at h
  ·rename_i a b c d hc;cases h;obtain⟨l⟩:=cs;simp only at hc;subst hc;rfl
  ·cases h
 ·cases h
def lok (x:W4) (n:Int):Bool×Bool:=(decide (x.ok∧ -9223372036854775808≤n∧n≤9223372036854775807),true)
def dnI (ex e:Int):Int:=i64.wrap (e-ex)
def dn1 (ex e:Int):Int:=i64.wrap (i64.wrap (e-ex)-1)
def ctV (x:W4) (ex e c:Int):Value:= .tuple #[vW (Zfe x (dnI ex e)),.int .i64 c]
theorem ct0 (n:Bool) (x:W4) (ex e:Int):Zw (Ze (Zi prog Zh ZpR true) 300 95 [vN n ex x false,.int .i64 e] [cmp false]) (ctV x ex e 0) [lok x (dnI ex e),(Zfw x (dnI ex e),false)]:=by and_intros<;>kernel_rfl
theorem ct1 (n:Bool) (x:W4) (ex e:Int):Zw (Ze (Zi prog Zh ZpR true) 300 95 [vN n ex x true,.int .i64 e] [cmp false,cmp true]) (ctV x ex e 2) [(dnI ex e==0,true),lok x (dnI ex e),(Zfw x (dnI ex e),false)]:=by and_intros<;>kernel_rfl
theorem ct2 (n:Bool) (x:W4) (ex e:Int) (d:Bool):Zw (Ze (Zi prog Zh ZpR true) 300 95 [vN n ex x true,.int .i64 e] [cmp false,cmp false,cmp d]) (ctV x ex e (match d with | true=>1 | false=>3)) [(Zkg x (dn1 ex e)==0,d),lok x (dn1 ex e),(dnI ex e==0,false),lok x (dnI ex e),(Zfw x (dnI ex e),false)]:=by
 cases d<;>exact by and_intros<;>kernel_rfl
theorem ct4 (n b:Bool) (x:W4) (ex e:Int):Zw (Ze (Zi prog Zh ZpR true) 300 95 [vN n ex x b,.int .i64 e] [cmp true,cmp false,cmp true]) (ctV x ex e 1) [(Zkg x (dn1 ex e)==0,true),lok x (dn1 ex e),(dnI ex e==0,false),lok x (dnI ex e),(Zfw x (dnI ex e),true)]:=by and_intros<;>kernel_rfl
theorem ct5 (n:Bool) (x:W4) (ex e:Int):Zw (Ze (Zi prog Zh ZpR true) 300 95 [vN n ex x true,.int .i64 e] [cmp true,cmp false,cmp false]) (ctV x ex e 3) [(Zkg x (dn1 ex e)==0,false),lok x (dn1 ex e),(dnI ex e==0,false),lok x (dnI ex e),(Zfw x (dnI ex e),true)]:=by and_intros<;>kernel_rfl
def bkW (x:W4) (ex e:Int):W4:=Zac (ofN (tw (Zfe x (dnI ex e)) true)) (dn1 ex e)
theorem ct6 (n:Bool) (x:W4) (ex e:Int) (d:Bool):Zw (Ze (Zi prog Zh ZpR true) 300 95 [vN n ex x false,.int .i64 e] [cmp true,cmp false,cmp false,sam d]) (ctV x ex e (match d with | true=>3 | false=>2)) [(!(eqW x (bkW x ex e)),d),lok (ofN (tw (Zfe x (dnI ex e)) true)) (dn1 ex e),(decide (Zfe x (dnI ex e)).ok,true),(Zkg x (dn1 ex e)==0,false),lok x (dn1 ex e),(dnI ex e==0,false),lok x (dnI ex e),(Zfw x (dnI ex e),true)]:=by
 cases d<;>exact by and_intros<;>kernel_rfl
end Go.Proofs.YtekebccjflilnaaGreat
