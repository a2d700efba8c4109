/-
  Num2, NumX4, NumR4, NumR5, NumF, NumQu, NumRd, RdX, RunX, RunY
-/
import Derived.Test.YtjlponbdflkbjaaGreatDoorG05
import GoSem.Core.Sem
namespace Go.Wd
theorem ZbU(n:Int):IntKind.u64.wrap n=n % 18446744073709551616:=by simp [IntKind.wrap,IntKind.bits,IntKind.signed]
theorem ZbF{n:Int}(h0: -9223372036854775808≤n)(h1:n≤9223372036854775807):IntKind.i64.wrap n=n:=by
 simp [IntKind.wrap,IntKind.bits,IntKind.signed];omega
def prt(n:Int):Int:=IntKind.u64.wrap(n.tmod 64)
def rem(n:Int):Int:=IntKind.u64.wrap(64-prt n)
def up(a n:Int):Int:=IntKind.u64.wrap(a*2^min(prt n).toNat 64)
def dn(a n:Int):Int:=a.fdiv(2^min(rem n).toNat 64)
def dn'(a n:Int):Int:=a.fdiv(2^min(prt n).toNat 64)
def up'(a n:Int):Int:=IntKind.u64.wrap(a*2^min(rem n).toNat 64)
def orr(x y:Int):Int:=IntKind.u64.wrap((BitVec.ofInt 64 x ||| BitVec.ofInt 64 y).toNat:Nat)
theorem Zll{n:Int}(h:0≤n):prt n=n % 64:=by
 unfold prt
 rw[Int.tmod_eq_emod_of_nonneg h,ZbU]
 omega
theorem ZsD{n:Int}(h:0≤n):rem n=64-n % 64:=by
 unfold rem
 rw[Zll h,ZbU]
 omega
structure Parts(n q r:Int):Prop where
 q1:1≤q
 r1:1<r
 qr:q*r=18446744073709551616
 eq:q=2^(n % 64).toNat
 er:r=2^(64-n % 64).toNat
theorem zV(n:Int):Parts n(2^(n % 64).toNat)(2^(64-n % 64).toNat):=by
 have h1:0≤n % 64:=by omega
 have h2:n % 64<64:=by omega
 refine⟨?_,?_,?_,rfl,rfl⟩
 ·have:(0:Int)<2^(n % 64).toNat:=Int.pow_pos(by omega)
  omega
 ·obtain⟨k,hk⟩:∃ k,(64-n % 64).toNat=k+1:=⟨(64-n % 64).toNat-1,by omega⟩
  rw[hk,Int.pow_succ]
  have:(0:Int)<2^k:=Int.pow_pos(by omega)
  omega
 ·rw[← Int.pow_add]
  have:(n % 64).toNat+(64-n % 64).toNat=64:=by omega
  rw[this]
  rfl
theorem Zlm{n:Int}(h:0≤n):min(prt n).toNat 64=(n % 64).toNat:=by rw[Zll h];omega
theorem Zln{n:Int}(h:0≤n):min(rem n).toNat 64=(64-n % 64).toNat:=by rw[ZsD h];omega
structure Cut(a q r hi lo:Int):Prop where
 sum:a=r*hi+lo
 lo0:0≤lo
 lo1:lo<r
 hi0:0≤hi
 hi1:hi<q
theorem cut{a n q r:Int}(P:Parts n q r)(h0:0≤a)(h1:a<18446744073709551616):Cut a q r(a/r)(a % r):=by
 have hr:0<r:=by have:=P.r1;omega
 refine⟨(Int.mul_ediv_add_emod a r).symm,Int.emod_nonneg _(by omega),Int.emod_lt_of_pos _ hr,Int.ediv_nonneg h0(by omega),?_⟩
 apply Int.ediv_lt_of_lt_mul hr
 rw[P.qr]
 exact h1
theorem Zcx(x y c:Int)(hc:0≤c)(h:x≤y):c*x≤c*y:=Int.mul_le_mul_of_nonneg_left h hc
theorem ZzC{a n q r hi lo:Int}(hn:0≤n)(P:Parts n q r)(C:Cut a q r hi lo):up a n=q*lo∧0≤q*lo∧q*lo+q≤18446744073709551616∧a*q=18446744073709551616*hi+q*lo:=by
 have e:a*q=18446744073709551616*hi+q*lo:=by
  rw[C.sum,Int.add_mul,← P.qr,Int.mul_comm r hi,Int.mul_assoc hi r q,Int.mul_comm r q,Int.mul_comm hi(q*r),Int.mul_comm lo q]
 have b0:0≤q*lo:=Int.mul_nonneg(by have:=P.q1;omega) C.lo0
 have b1:q*lo+q≤18446744073709551616:=by
  have h:=Zcx(lo+1) r q(by have:=P.q1;omega)(by have:=C.lo1;omega)
  rw[P.qr,Int.mul_add,Int.mul_one] at h
  exact h
 refine⟨?_,b0,b1,e⟩
 unfold up
 rw[Zlm hn,← P.eq,ZbU,e]
 have:=P.q1
 omega
theorem Z5j{a n q r hi lo:Int}(hn:0≤n)(P:Parts n q r)(C:Cut a q r hi lo):dn a n=hi:=by
 unfold dn
 rw[Zln hn,← P.er,Int.fdiv_eq_ediv_of_nonneg _(by have:=P.r1;omega),C.sum,Int.mul_comm r hi,Int.add_comm,Int.add_mul_ediv_right _ _(by have:=P.r1;omega),
  Int.ediv_eq_zero_of_lt C.lo0 C.lo1,Int.zero_add]
theorem ZsE{k:Nat}{x y:Int}(hx:∃ z:Int,x=2^k*z)(x0:0≤x)(y0:0≤y)(y1:y<2^k)(hs:x+y<18446744073709551616):orr x y=x+y:=by
 obtain⟨z,hz⟩:=hx
 have hp:(0:Int)<2^k:=Int.pow_pos(by omega)
 have z0:0≤z:=by
  rcases Int.lt_or_le z 0 with h | h
  ·have:=Zcx z(-1)(2^k)(by omega)(by omega)
   omega
  ·exact h
 obtain⟨Z,rfl⟩:=Int.eq_ofNat_of_zero_le z0
 obtain⟨Y,rfl⟩:=Int.eq_ofNat_of_zero_le y0
 have ex:x=((2^k*Z:Nat):Int):=by rw[hz];simp
 have hY:Y<2^k:=by
  have:((Y:Nat):Int)<((2^k:Nat):Int):=by simpa using y1
  exact Int.ofNat_lt.1 this
 have hX:2^k*Z+Y<18446744073709551616:=by
  rw[ex] at hs
  have:(((2^k*Z+Y:Nat)):Int)<18446744073709551616:=by simpa using hs
  omega
 unfold orr
 rw[ex]
 have e1:∀ m:Nat,m<18446744073709551616→(BitVec.ofInt 64(m:Int)).toNat=m:=fun m hm=>by
  simp
  omega
 rw[BitVec.toNat_or,e1 _(by omega),e1 _(by omega),← Nat.two_pow_add_eq_or_of_lt hY,ZbU]
 have:(((2^k*Z+Y:Nat)):Int)=((2^k*Z:Nat):Int)+(Y:Int):=by simp
 rw[this]
 omega
theorem W4.of_eq{x:W4}{N k:Int}(hx:x.ok)(h:N=x.val+115792089237316195423570985008687907853269984665640564039457584007913129639936*k):W4.of N=x:=by
 obtain⟨a,b,c,d⟩:=x
 unfold W4.ok at hx
 unfold W4.val at h
 unfold W4.of
 dsimp only at*
 subst h
 refine W4.ext' ?_ ?_ ?_ ?_<;>dsimp only<;>omega
def ZzD(x:W4)(n:Int):W4:=⟨up x.a n,orr(up x.b n)(dn x.a n),orr(up x.c n)(dn x.b n),orr(up x.d n)(dn x.c n)⟩
def ZzE(x:W4)(n:Int):W4:=⟨0,up x.a n,orr(up x.b n)(dn x.a n),orr(up x.c n)(dn x.b n)⟩
def ZzF(x:W4)(n:Int):W4:=⟨0,0,up x.a n,orr(up x.b n)(dn x.a n)⟩
def ZzG(x:W4)(n:Int):W4:=⟨0,0,0,up x.a n⟩
theorem ZbG{n:Int}(hn:0≤n){a b:Int}(ha:0≤a∧a<18446744073709551616)(hb:0≤b∧b<18446744073709551616):
  orr(up b n)(dn a n)=up b n+dn a n∧(0≤up a n∧up a n<18446744073709551616)∧(0≤up b n+dn a n∧up b n+dn a n<18446744073709551616)∧
   a*2^(n % 64).toNat=18446744073709551616*dn a n+up a n:=by
 have P:=zV n
 have Ca:=cut P ha.1 ha.2
 have Cb:=cut P hb.1 hb.2
 obtain⟨e1,b1,b2,b3⟩:=ZzC hn P Ca
 obtain⟨f1,c1,c2,c3⟩:=ZzC hn P Cb
 have e2:=Z5j hn P Ca
 have q1:=P.q1
 have h0:=Ca.hi0
 have h1:=Ca.hi1
 refine⟨?_,⟨by omega,by omega⟩,⟨by omega,by omega⟩,by rw[e1,e2];exact b3⟩
 rw[f1,e2]
 exact ZsE(k:=(n % 64).toNat)⟨_,rfl⟩ c1 h0 h1(by omega)
theorem z64:(0:Int)≤0∧(0:Int)<18446744073709551616:=⟨by omega,by omega⟩
theorem Zaw(n:Int)(h0:0≤n)(j:Nat)(hj:n/64=j):(2:Int)^n.toNat=2^(64*j)*2^(n % 64).toNat:=by
 rw[← Int.pow_add]
 congr 1
 omega
theorem ZbH(x:W4)(q:Int):x.val*q=x.a*q+18446744073709551616*(x.b*q)+340282366920938463463374607431768211456*(x.c*q)+6277101735386680763835789423207666416102355444464034512896*(x.d*q):=by
 unfold W4.val
 rw[Int.add_mul,Int.add_mul,Int.add_mul,Int.mul_assoc,Int.mul_assoc,Int.mul_assoc]
theorem Zub{x:W4}(hx:x.ok){n:Int}(hn:0≤n)(hj:n/64=0):ZzD x n=W4.of(x.val*2^n.toNat):=by
 obtain⟨h1,h2,h3,h4⟩:=hx
 obtain⟨o1,u1,s1,m1⟩:=ZbG hn h1 h2
 obtain⟨o2,u2,s2,m2⟩:=ZbG hn h2 h3
 obtain⟨o3,u3,s3,m3⟩:=ZbG hn h3 h4
 obtain⟨_,u4,_,m4⟩:=ZbG hn h4 h1
 have e:=Zaw n hn 0 hj
 have one:(2:Int)^(64*0)=1:=rfl
 rw[one,Int.one_mul] at e
 refine(W4.of_eq(x:=ZzD x n)(k:=dn x.d n) ?_ ?_).symm
 ·unfold ZzD;rw[o1,o2,o3];exact⟨u1,s1,s2,s3⟩
 ·rw[e,ZbH,m1,m2,m3,m4];unfold ZzD W4.val;dsimp only;rw[o1,o2,o3];omega
theorem Zuc{x:W4}(hx:x.ok){n:Int}(hn:0≤n)(hj:n/64=1):ZzE x n=W4.of(x.val*2^n.toNat):=by
 obtain⟨h1,h2,h3,h4⟩:=hx
 obtain⟨o1,u1,s1,m1⟩:=ZbG hn h1 h2
 obtain⟨o2,u2,s2,m2⟩:=ZbG hn h2 h3
 obtain⟨_,u3,_,m3⟩:=ZbG hn h3 h4
 obtain⟨_,u4,_,m4⟩:=ZbG hn h4 h1
 have e:=Zaw n hn 1 hj
 have one:(2:Int)^(64*1)=18446744073709551616:=rfl
 rw[one] at e
 refine(W4.of_eq(x:=ZzE x n)(k:=dn x.c n+(18446744073709551616*dn x.d n+up x.d n)) ?_ ?_).symm
 ·unfold ZzE;rw[o1,o2];exact⟨z64,u1,s1,s2⟩
 ·rw[e,Int.mul_left_comm,ZbH,m1,m2,m3,m4];unfold ZzE W4.val;dsimp only;rw[o1,o2];omega
theorem Zud{x:W4}(hx:x.ok){n:Int}(hn:0≤n)(hj:n/64=2):ZzF x n=W4.of(x.val*2^n.toNat):=by
 obtain⟨h1,h2,h3,h4⟩:=hx
 obtain⟨o1,u1,s1,m1⟩:=ZbG hn h1 h2
 obtain⟨_,u2,_,m2⟩:=ZbG hn h2 h3
 have e:=Zaw n hn 2 hj
 have one:(2:Int)^(64*2)=340282366920938463463374607431768211456:=rfl
 rw[one] at e
 refine(W4.of_eq(x:=ZzF x n)(k:=dn x.b n+x.c*2^(n % 64).toNat+18446744073709551616*(x.d*2^(n % 64).toNat)) ?_ ?_).symm
 ·unfold ZzF;rw[o1];exact⟨z64,z64,u1,s1⟩
 ·rw[e,Int.mul_left_comm,ZbH,m1,m2];unfold ZzF W4.val;dsimp only;rw[o1];omega
theorem Zue{x:W4}(hx:x.ok){n:Int}(hn:0≤n)(hj:n/64=3):ZzG x n=W4.of(x.val*2^n.toNat):=by
 obtain⟨h1,h2,h3,h4⟩:=hx
 obtain⟨_,u1,_,m1⟩:=ZbG hn h1 h2
 have e:=Zaw n hn 3 hj
 have one:(2:Int)^(64*3)=6277101735386680763835789423207666416102355444464034512896:=rfl
 rw[one] at e
 refine(W4.of_eq(x:=ZzG x n)(k:=dn x.a n+x.b*2^(n % 64).toNat+18446744073709551616*(x.c*2^(n % 64).toNat)+340282366920938463463374607431768211456*(x.d*2^(n % 64).toNat)) ?_ ?_).symm
 ·unfold ZzG;exact⟨z64,z64,z64,u1⟩
 ·rw[e,Int.mul_left_comm,ZbH,m1];unfold ZzG W4.val;dsimp only;omega
theorem Zpm(x y:Int):orr x y=orr y x:=by unfold orr;rw[BitVec.or_comm]
structure Cut'(a q r hi lo:Int):Prop where
 sum:a=q*hi+lo
 lo0:0≤lo
 lo1:lo<q
 hi0:0≤hi
 hi1:hi<r
theorem Z5k{a n q r:Int}(P:Parts n q r)(h0:0≤a)(h1:a<18446744073709551616):Cut' a q r(a/q)(a % q):=by
 have hq:0<q:=by have:=P.q1;omega
 refine⟨(Int.mul_ediv_add_emod a q).symm,Int.emod_nonneg _(by omega),Int.emod_lt_of_pos _ hq,Int.ediv_nonneg h0(by omega),?_⟩
 apply Int.ediv_lt_of_lt_mul hq
 rw[Int.mul_comm,P.qr]
 exact h1
theorem ZsF{a n q r:Int}(hn:0≤n)(P:Parts n q r):dn' a n=a/q:=by
 unfold dn'
 rw[Zlm hn,← P.eq,Int.fdiv_eq_ediv_of_nonneg _(by have:=P.q1;omega)]
theorem ZsG{a n q r hi lo:Int}(hn:0≤n)(P:Parts n q r)(C:Cut' a q r hi lo):up' a n=r*lo∧0≤r*lo∧r*lo+r≤18446744073709551616:=by
 have e:a*r=18446744073709551616*hi+r*lo:=by
  rw[C.sum,Int.add_mul,← P.qr,Int.mul_right_comm q hi r,Int.mul_comm lo r]
 have b0:0≤r*lo:=Int.mul_nonneg(by have:=P.r1;omega) C.lo0
 have b1:r*lo+r≤18446744073709551616:=by
  have h:=Zcx(lo+1) q r(by have:=P.r1;omega)(by have:=C.lo1;omega)
  rw[Int.mul_comm r q,P.qr,Int.mul_add,Int.mul_one] at h
  exact h
 refine⟨?_,b0,b1⟩
 unfold up'
 rw[Zln hn,← P.er,ZbU,e]
 have:=P.r1
 omega
theorem zW{n:Int}(hn:0≤n){a b:Int}(ha:0≤a∧a<18446744073709551616)(hb:0≤b∧b<18446744073709551616):
  ∃ lb:Int,orr(dn' a n)(up' b n)=dn' a n+up' b n∧(0≤dn' a n∧dn' a n<18446744073709551616)∧(0≤dn' a n+up' b n∧dn' a n+up' b n<18446744073709551616)∧
   2^(n % 64).toNat*up' b n=18446744073709551616*lb∧0≤lb∧lb<2^(n % 64).toNat∧b=2^(n % 64).toNat*dn' b n+lb:=by
 have P:=zV n
 have Ca:=Z5k P ha.1 ha.2
 have Cb:=Z5k P hb.1 hb.2
 obtain⟨f1,c1,c2⟩:=ZsG hn P Cb
 have e1:=ZsF(a:=a) hn P
 have e2:=ZsF(a:=b) hn P
 have h0:=Ca.hi0
 have h1:=Ca.hi1
 have r1:=P.r1
 refine⟨b % 2^(n % 64).toNat,?_,⟨by omega,by omega⟩,⟨by omega,by omega⟩,?_,Cb.lo0,Cb.lo1,by rw[e2];exact Cb.sum⟩
 ·rw[Zpm,f1,e1,Int.add_comm]
  exact ZsE(k:=(64-n % 64).toNat)⟨_,rfl⟩ c1 h0 h1(by omega)
 ·rw[f1,← Int.mul_assoc,P.qr]
theorem Zpn{n:Int}(hn:0≤n){b:Int}(hb:0≤b∧b<18446744073709551616):up' b n % 2=0:=by
 have P:=zV n
 obtain⟨f1,_,_⟩:=ZsG hn P(Z5k P hb.1 hb.2)
 obtain⟨k,hk⟩:∃ k,(64-n % 64).toNat=k+1:=⟨(64-n % 64).toNat-1,by omega⟩
 rw[f1,hk,Int.pow_succ,Int.mul_comm _ 2,Int.mul_assoc]
 omega
def Zuf(x:W4)(n:Int):W4:=⟨orr(dn' x.a n)(up' x.b n),orr(dn' x.b n)(up' x.c n),orr(dn' x.c n)(up' x.d n),dn' x.d n⟩
def Zug(x:W4)(n:Int):W4:=⟨orr(dn' x.b n)(up' x.c n),orr(dn' x.c n)(up' x.d n),dn' x.d n,0⟩
def Zuh(x:W4)(n:Int):W4:=⟨orr(dn' x.c n)(up' x.d n),dn' x.d n,0,0⟩
def Zui(x:W4)(n:Int):W4:=⟨dn' x.d n,0,0,0⟩
theorem Zuj{N q m l:Int}(h:N=q*m+l)(h0:0≤l)(h1:l<q):N/q=m:=by
 rw[h,Int.add_comm,Int.add_mul_ediv_left _ _(by omega),Int.ediv_eq_zero_of_lt h0 h1,Int.zero_add]
theorem Zf1{x m:W4}{n:Int}{q l:Int}(hm:m.ok)(h:x.val=q*m.val+l)(h0:0≤l)(h1:l<q)(hq:q=2^n.toNat):m=W4.of(x.val/2^n.toNat):=by
 rw[← hq,Zuj h h0 h1,W4.of_val hm]
theorem Zlo{x:W4}(hx:x.ok){n:Int}(hn:0≤n)(hj:n/64=0):Zuf x n=W4.of(x.val/2^n.toNat)∧(Zuf x n).ok:=by
 obtain⟨h1,h2,h3,h4⟩:=hx
 obtain⟨l1,o1,d1,s1,m1,l10,l11,e1⟩:=zW hn h1 h2
 obtain⟨l2,o2,d2,s2,m2,l20,l21,e2⟩:=zW hn h2 h3
 obtain⟨l3,o3,d3,s3,m3,l30,l31,e3⟩:=zW hn h3 h4
 obtain⟨l4,_,d4,_,_,l40,l41,e4⟩:=zW hn h4 h1
 have e:=Zaw n hn 0 hj
 have one:(2:Int)^(64*0)=1:=rfl
 rw[one,Int.one_mul] at e
 have hok:(Zuf x n).ok:=by unfold Zuf;rw[o1,o2,o3];exact⟨s1,s2,s3,d4⟩
 refine⟨Zf1(q:=2^(n % 64).toNat)(l:=l4) hok ?_ l40 l41 e.symm,hok⟩
 rw[Int.mul_comm,ZbH]
 unfold Zuf W4.val
 dsimp only
 rw[o1,o2,o3]
 generalize(2:Int)^(n % 64).toNat=q at*
 simp only[Int.mul_comm _ q,Int.mul_add]
 omega
theorem Zlp{x:W4}(hx:x.ok){n:Int}(hn:0≤n)(hj:n/64=1):Zug x n=W4.of(x.val/2^n.toNat)∧(Zug x n).ok:=by
 obtain⟨h1,h2,h3,h4⟩:=hx
 obtain⟨l2,o2,d2,s2,m2,l20,l21,e2⟩:=zW hn h2 h3
 obtain⟨l3,o3,d3,s3,m3,l30,l31,e3⟩:=zW hn h3 h4
 obtain⟨l4,_,d4,_,_,_,_,_⟩:=zW hn h4 h1
 obtain⟨l5,_,_,_,_,l50,l51,e5⟩:=zW hn h1 h2
 have e:=Zaw n hn 1 hj
 have one:(2:Int)^(64*1)=18446744073709551616:=rfl
 rw[one] at e
 have hok:(Zug x n).ok:=by unfold Zug;rw[o2,o3];exact⟨s2,s3,d4,z64⟩
 refine⟨Zf1(q:=18446744073709551616*2^(n % 64).toNat)(l:=x.a+18446744073709551616*l5) hok ?_(by omega)(by omega) e.symm,hok⟩
 rw[Int.mul_assoc,Int.mul_comm(2^(n % 64).toNat),ZbH]
 unfold Zug W4.val
 dsimp only
 rw[o2,o3]
 generalize(2:Int)^(n % 64).toNat=q at*
 simp only[Int.mul_comm _ q,Int.mul_add]
 omega
theorem Zlq{x:W4}(hx:x.ok){n:Int}(hn:0≤n)(hj:n/64=2):Zuh x n=W4.of(x.val/2^n.toNat)∧(Zuh x n).ok:=by
 obtain⟨h1,h2,h3,h4⟩:=hx
 obtain⟨l3,o3,d3,s3,m3,l30,l31,e3⟩:=zW hn h3 h4
 obtain⟨l4,_,d4,_,_,_,_,_⟩:=zW hn h4 h1
 obtain⟨l5,_,_,_,_,l50,l51,e5⟩:=zW hn h1 h3
 have e:=Zaw n hn 2 hj
 have one:(2:Int)^(64*2)=340282366920938463463374607431768211456:=rfl
 rw[one] at e
 have hok:(Zuh x n).ok:=by unfold Zuh;rw[o3];exact⟨s3,d4,z64,z64⟩
 refine⟨Zf1(q:=340282366920938463463374607431768211456*2^(n % 64).toNat)(l:=x.a+18446744073709551616*x.b+340282366920938463463374607431768211456*l5) hok ?_(by omega)(by omega) e.symm,hok⟩
 rw[Int.mul_assoc,Int.mul_comm(2^(n % 64).toNat),ZbH]
 unfold Zuh W4.val
 dsimp only
 rw[o3]
 generalize(2:Int)^(n % 64).toNat=q at*
 simp only[Int.mul_comm _ q,Int.mul_add]
 omega
theorem Zlr{x:W4}(hx:x.ok){n:Int}(hn:0≤n)(hj:n/64=3):Zui x n=W4.of(x.val/2^n.toNat)∧(Zui x n).ok:=by
 obtain⟨h1,h2,h3,h4⟩:=hx
 obtain⟨l4,_,d4,_,_,_,_,_⟩:=zW hn h4 h1
 obtain⟨l5,_,_,_,_,l50,l51,e5⟩:=zW hn h1 h4
 have e:=Zaw n hn 3 hj
 have one:(2:Int)^(64*3)=6277101735386680763835789423207666416102355444464034512896:=rfl
 rw[one] at e
 have hok:(Zui x n).ok:=by unfold Zui;exact⟨d4,z64,z64,z64⟩
 refine⟨Zf1(q:=6277101735386680763835789423207666416102355444464034512896*2^(n % 64).toNat)(l:=x.a+18446744073709551616*x.b+340282366920938463463374607431768211456*x.c+6277101735386680763835789423207666416102355444464034512896*l5) hok ?_(by omega)(by omega) e.symm,hok⟩
 rw[Int.mul_assoc,Int.mul_comm(2^(n % 64).toNat),ZbH]
 unfold Zui W4.val
 dsimp only
 generalize(2:Int)^(n % 64).toNat=q at*
 simp only[Int.mul_comm _ q]
 omega
end Go.Wd
namespace Go.Wd
open Go.Rn
def W4.nat(x:W4):Nat:=x.val.toNat
theorem W4.nat_val{x:W4}(h:x.ok):x.val=(x.nat:Int):=by
 have:=(W4.val_bd h).1
 unfold W4.nat
 omega
theorem W4.nat_lt{x:W4}(h:x.ok):x.nat<2^256:=by
 have:=W4.val_bd h
 have e:(2:Nat)^256=115792089237316195423570985008687907853269984665640564039457584007913129639936:=rfl
 unfold W4.nat
 omega
def ofN(n:Nat):W4:=W4.of(n:Int)
theorem zJ(n:Nat):(ofN n).ok:=W4.ok_of _
theorem Zbn{n:Nat}(h:n<2^256):(ofN n).nat=n:=by
 have e:(2:Nat)^256=115792089237316195423570985008687907853269984665640564039457584007913129639936:=rfl
 unfold W4.nat ofN
 rw[W4.val_of]
 omega
theorem Zd7{x:W4}(h:x.ok):ofN x.nat=x:=by
 unfold ofN
 rw[← W4.nat_val h,W4.of_val h]
theorem ZzH(n:Int):W4.of(n % 115792089237316195423570985008687907853269984665640564039457584007913129639936)=W4.of n:=by
 unfold W4.of
 refine W4.ext' ?_ ?_ ?_ ?_<;>dsimp only<;>omega
theorem Zhi(n:Nat):ofN(n % 2^256)=ofN n:=by
 have e:(2:Nat)^256=115792089237316195423570985008687907853269984665640564039457584007913129639936:=rfl
 unfold ofN
 rw[← ZzH(n:Int),e]
 congr 1
theorem Zcy:ofN 0=⟨0,0,0,0⟩:=by rfl
theorem Zuk{n k:Nat}(h:256≤k):ofN(n*2^k)=⟨0,0,0,0⟩:=by
 rw[← Zhi]
 have:n*2^k % 2^256=0:=by
  obtain⟨j,rfl⟩:∃ j,k=j+256:=⟨k-256,by omega⟩
  rw[Nat.pow_add,← Nat.mul_assoc,Nat.mul_mod_left]
 rw[this,Zcy]
theorem Zhj(n k:Nat):ofN(n % 2^256*k)=ofN(n*k):=by
 rw[← Zhi(n % 2^256*k),← Zhi(n*k),Nat.mod_mul_mod]
theorem Zgr{n k:Nat}(h:n<2^256)(hk:256≤k):n/2^k=0:=by
 have:=Nat.pow_le_pow_right(show 0<2 by omega) hk
 exact Nat.div_eq_of_lt(by omega)
theorem Zls{n k:Nat}(h:n<2^256)(hk:256≤k):n % 2^k=n:=by
 have:=Nat.pow_le_pow_right(show 0<2 by omega) hk
 exact Nat.mod_eq_of_lt(by omega)
theorem cast_pow(k:Nat):((2:Int)^k)=((2^k:Nat):Int):=by simp
def tw(x:W4)(b:Bool):Nat:=2*x.nat+(match b with | true=>1 | false=>0)
theorem Zlt(x:W4)(b:Bool)(d:Nat):tw x b/2^(d+1)=x.nat/2^d:=by
 unfold tw
 rw[Nat.pow_succ,Nat.mul_comm(2^d) 2,← Nat.div_div_eq_div_mul]
 congr 1
 cases b<;>simp only<;>omega
theorem Zgs(x:W4)(b:Bool)(d:Nat):tw x b % 2^(d+1)=2*(x.nat % 2^d)+(match b with | true=>1 | false=>0):=by
 unfold tw
 rw[Nat.pow_succ,Nat.mul_comm(2^d) 2,Nat.mod_mul]
 have e:(2*x.nat+(match b with | true=>1 | false=>0))/2=x.nat:=by cases b<;>simp only<;>omega
 rw[e]
 cases b<;>simp only<;>omega
theorem Zlu{x:W4}{b:Bool}(h:x.ok):tw x b=0↔(eqW x⟨0,0,0,0⟩ && !b)=true:=by
 have e:x.nat=0↔x=⟨0,0,0,0⟩:=by
  constructor
  ·intro h0
   rw[← Zd7 h,h0,Zcy]
  ·intro h0;rw[h0];rfl
 rw[Bool.and_eq_true,Zf0,← e]
 unfold tw
 cases b<;>simp<;>omega
theorem Zul{x:W4}{d:Nat}(h:x.nat % 2^d=0):z9(tw x false % 2^(d+1))(2^(d+1))=0:=by
 rw[Zgs,h]
 simp [z9]
theorem Zum{x:W4}:z9(tw x true % 2^(0+1))(2^(0+1))=2:=by
 rw[Zgs]
 simp [z9,Nat.mod_one]
theorem Zf2(V j:Nat):V % 2^(j+1)=V % 2^j+2^j*(V/2^j % 2):=by rw[Nat.pow_succ,Nat.mod_mul]
theorem Zik{x:W4}{b:Bool}{j:Nat}(h:x.nat/2^j % 2=0)(h0:x.nat % 2^(j+1)≠0∨b=true):z9(tw x b % 2^(j+1+1))(2^(j+1+1))=1:=by
 have hp:0<2^j:=Nat.pow_pos(by omega)
 have hm:=Zf2 x.nat j
 rw[h,Nat.mul_zero,Nat.add_zero] at hm
 have hl:=Nat.mod_lt x.nat hp
 rw[hm] at h0
 rw[Zgs,hm,Nat.pow_succ,Nat.pow_succ]
 unfold z9
 cases b
 ·simp only[Bool.false_eq_true,or_false] at*
  rw[if_neg(by omega),if_pos(by omega)]
 ·simp only
  rw[if_neg(by omega),if_pos(by omega)]
theorem Zf3{x:W4}{b:Bool}{j:Nat}(h:x.nat/2^j % 2=1)(h0:x.nat % 2^j≠0∨b=true):z9(tw x b % 2^(j+1+1))(2^(j+1+1))=3:=by
 have hp:0<2^j:=Nat.pow_pos(by omega)
 have hm:=Zf2 x.nat j
 rw[h,Nat.mul_one] at hm
 rw[Zgs,hm,Nat.pow_succ,Nat.pow_succ]
 unfold z9
 cases b
 ·simp only[Bool.false_eq_true,or_false] at*
  rw[if_neg(by omega),if_neg(by omega),if_neg(by omega)]
 ·simp only
  rw[if_neg(by omega),if_neg(by omega),if_neg(by omega)]
theorem Zun{x:W4}{j:Nat}(h:x.nat/2^j % 2=1)(h0:x.nat % 2^j=0):z9(tw x false % 2^(j+1+1))(2^(j+1+1))=2:=by
 have hp:0<2^j:=Nat.pow_pos(by omega)
 have hm:=Zf2 x.nat j
 rw[h,h0,Nat.mul_one] at hm
 rw[Zgs,hm,Nat.pow_succ,Nat.pow_succ]
 unfold z9
 simp only
 rw[if_neg(by omega),if_neg(by omega),if_pos(by omega)]
theorem Zpo{x:W4}(hx:x.ok){j:Nat}(h:x.nat/2^j % 2=1):eqW x(ofN((2*(x.nat/2^(j+1))+1)*2^j))=decide(x.nat % 2^j=0):=by
 have hl:=W4.nat_lt hx
 have hm:=Zf2 x.nat j
 rw[h,Nat.mul_one] at hm
 have hd:=Nat.div_add_mod x.nat(2^(j+1))
 have e:(2*(x.nat/2^(j+1))+1)*2^j=x.nat-x.nat % 2^j:=by
  rw[Nat.pow_succ] at hd hm ⊢
  rw[Nat.add_mul,Nat.one_mul,Nat.mul_comm 2,Nat.mul_assoc,Nat.mul_comm 2,Nat.mul_comm]
  omega
 rw[e,Bool.eq_iff_iff,Zf0,decide_eq_true_eq]
 have hle:x.nat % 2^j≤x.nat:=Nat.mod_le _ _
 constructor
 ·intro hh
  have:=congrArg W4.nat hh
  rw[Zbn(by omega)] at this
  omega
 ·intro hh
  rw[hh,Nat.sub_zero,Zd7 hx]
end Go.Wd
namespace Go.Rn
open Go.Nt Go.Wd
theorem Zuo{k:Nat}(hk:300≤k):4*2^256≤2^k:=by
 obtain⟨j,rfl⟩:∃ j,k=256+(2+j):=⟨k-258,by omega⟩
 have hj:0<2^j:=Nat.pow_pos(by omega)
 rw[Nat.pow_add,Nat.pow_add,Nat.mul_comm 4]
 refine Nat.mul_le_mul_left _ ?_
 show 4≤4*2^j
 omega
def mN(m:Int):Int:=if m<0 then 0 else if m>4 then 0 else m
theorem ZsH(m:Int)(neg o:Bool)(c:Int):upR(mN m) neg o c=upR m neg o c:=by
 unfold mN
 by_cases h0:m<0
 ·rw[if_pos h0]
  unfold upR
  rw[if_neg(show ¬ m=2 by omega),if_neg(show ¬ m=3 by omega),if_neg(show ¬ m=4 by omega),if_neg(show ¬ m=1 by omega)]
  simp
 ·rw[if_neg h0]
  by_cases h4:m>4
  ·rw[if_pos h4]
   unfold upR
   rw[if_neg(show ¬ m=2 by omega),if_neg(show ¬ m=3 by omega),if_neg(show ¬ m=4 by omega),if_neg(show ¬ m=1 by omega)]
   simp
  ·rw[if_neg h4]
theorem ZsI(m:Int)(neg:Bool)(T:Nat)(E e:Int):toQ(mN m) neg T E e=toQ m neg T E e:=by
 unfold toQ rq
 simp only[ZsH]
def rT(x:W4)(b:Bool):Nat:=match b with | true=>2*x.nat+1 | false=>x.nat
def jB(b:Bool):Int:=match b with | true=>1 | false=>0
theorem Z5l{x:W4}(hx:x.ok)(b:Bool):rT x b<2*2^256:=by
 have:=W4.nat_lt hx
 unfold rT
 cases b<;>simp only<;>omega
theorem ZzI(m:Int)(neg:Bool)(T:Nat)(E:Int):rnP(mN m) neg T E=rnP m neg T E:=by
 unfold rnP p0 bey
 simp only[ZsI,ZsH]
theorem ZzJ(m:Int)(neg:Bool)(T:Nat)(E:Int):rnF(mN m) neg T E=rnF m neg T E:=by
 unfold rnF p0 Zd6
 simp only[ZsI]
theorem ZzK{m:Int}{neg:Bool}{T:Nat}{E:Int}(hT:T≠0)(h:1024≤lgN T E):9218868437227405312≤p0 m neg T E:=by
 have hq:=Zld(m:=m)(neg:=neg)(T:=T)(E:=E) hT(by omega)
 have hl:zx T E=lgN T E-52:=by unfold zx;rw[if_neg(by omega)]
 unfold p0
 rw[hl] at hq ⊢
 omega
theorem ZdT{m:Int}{neg:Bool}{T:Nat}{E:Int}(hT:T≠0)(h:1024≤lgN T E):rnP m neg T E=bey m neg∧rnF m neg T E=20:=by
 have:=ZzK(m:=m)(neg:=neg) hT h
 unfold rnP rnF
 rw[if_neg hT,if_neg hT,if_pos this,if_pos this]
 exact⟨rfl,rfl⟩
theorem Zdr{m:Int}{neg:Bool}{T:Nat}{E:Int}(hT:T≠0)(h:lgN T E≤ -1100):rnP m neg T E=(if upR m neg false 1=true then 1 else 0)∧rnF m neg T E=24:=by
 have hb:=(bitLen_spec T).1
 have hl:zx T E= -1074:=by unfold zx;rw[if_pos(by omega)]
 have hE:¬ (-1074:Int)≤E:=by unfold lgN at h;have:=Za1 hT;omega
 have hk:bitLen T+2≤(-1074-E).toNat:=by unfold lgN at h;omega
 have hp:=Nat.pow_le_pow_right(show 0<2 by omega) hk
 have e4:2^(bitLen T+2)=4*2^bitLen T:=by rw[Nat.pow_add,Nat.mul_comm]
 have hlt:2*T<2^(-1074-E).toNat:=by omega
 have hd:T/2^(-1074-E).toNat=0:=Nat.div_eq_of_lt(by omega)
 have hm:T % 2^(-1074-E).toNat=T:=Nat.mod_eq_of_lt(by omega)
 have hr:z9 T(2^(-1074-E).toNat)=1:=by unfold z9;rw[if_neg hT,if_pos hlt]
 have hq:toQ m neg T E(-1074)=if upR m neg false 1=true then 1 else 0:=by
  unfold toQ rq
  rw[if_neg hE,hd,hm,hr]
  have ho:odd 0=false:=rfl
  rw[ho]
  simp
 have hL:toL T E(-1074)=true:=by unfold toL;rw[if_neg hE,hm];exact decide_eq_true hT
 have hti:Zd6 m neg T E=true:=by unfold Zd6;rw[if_neg(by omega)];exact decide_eq_true(by omega)
 have hp0:p0 m neg T E=if upR m neg false 1=true then 1 else 0:=by
  unfold p0
  rw[hl,hq]
  split<;>rfl
 unfold rnP rnF
 rw[if_neg hT,if_neg hT,hp0,hl,hL,hti]
 split<;>simp
theorem ZeR{m:Int}{neg:Bool}{x:W4}(hx:x.ok)(b:Bool){C D:Int}(h:(C=D)∨(1700≤C∧1700≤D)∨(C≤ -1700∧D≤ -1700)):rnP m neg(tw x b)(C-1)=rnP m neg(rT x b)(D-jB b)∧rnF m neg(tw x b)(C-1)=rnF m neg(rT x b)(D-jB b):=by
 have hj:0≤jB b∧jB b≤1:=by cases b<;>simp [jB]
 have e:rnP m neg(tw x b)(C-1)=rnP m neg(rT x b)(C-jB b)∧rnF m neg(tw x b)(C-1)=rnF m neg(rT x b)(C-jB b):=by
  cases b with
  | true=>exact⟨rfl,rfl⟩
  | false=>
   have e1:tw x false=x.nat*2^1:=by unfold tw;simp [Nat.mul_comm]
   rw[e1]
   simp only[rT,jB,Int.sub_zero]
   exact⟨ZaB m neg x.nat 1 C,ZaC m neg x.nat 1 C⟩
 rw[e.1,e.2]
 rcases h with h | h | h
 ·rw[h];exact⟨rfl,rfl⟩
 ·by_cases hT:rT x b=0
  ·rw[hT];unfold rnP rnF;simp
  ·have hl:=Za1 hT
   obtain⟨a1,a2⟩:=ZdT(m:=m)(neg:=neg)(E:=C-jB b) hT(by unfold lgN;omega)
   obtain⟨b1,b2⟩:=ZdT(m:=m)(neg:=neg)(E:=D-jB b) hT(by unfold lgN;omega)
   rw[a1,a2,b1,b2];exact⟨rfl,rfl⟩
 ·by_cases hT:rT x b=0
  ·rw[hT];unfold rnP rnF;simp
  ·have hlt:=Z5l hx b
   obtain⟨k,hk⟩:∃ k:Nat,k=300:=⟨300,rfl⟩
   have hfp:=Zuo(show 300≤k by omega)
   have hl:bitLen(rT x b)≤k:=len_le(by omega)
   obtain⟨a1,a2⟩:=Zdr(m:=m)(neg:=neg)(E:=C-jB b) hT(by unfold lgN;omega)
   obtain⟨b1,b2⟩:=Zdr(m:=m)(neg:=neg)(E:=D-jB b) hT(by unfold lgN;omega)
   rw[a1,a2,b1,b2];exact⟨rfl,rfl⟩
theorem ZzL{q:Nat}(h0:4503599627370496≤q)(h1:q≤9007199254740992):bitLen q=if q=9007199254740992 then 54 else 53:=by
 split
 ·rename_i h;rw[h];exact Zbk(k:=53)(by decide)(by decide)
 ·exact Zbk(k:=52) h0(show q<2^53 by have:(2:Nat)^53=9007199254740992:=rfl;omega)
theorem Zpp{m:Int}{neg:Bool}{T:Nat}{E:Int}(hT:T≠0):decide((bitLen(toQ m neg T E(lgN T E-52)):Int)+(lgN T E+1)-53≤ -1022)=Zd6 m neg T E:=by
 have h0:4503599627370496≤toQ m neg T E(lgN T E-52):=ZsB(n:=52) hT(by unfold lgN;omega)
 have h1:toQ m neg T E(lgN T E-52)≤9007199254740992:=Zij(n:=53)(by unfold lgN;omega)
 have hl:=ZzL h0 h1
 unfold Zd6
 by_cases he:lgN T E= -1023
 ·have e:lgN T E-52= -1075:=by omega
  rw[e] at h0 h1 hl ⊢
  rw[if_pos he,hl]
  congr 1
  simp only[eq_iff_iff]
  split<;>omega
 ·rw[if_neg he,hl]
  congr 1
  simp only[eq_iff_iff]
  split<;>omega
theorem Zpq{m:Int}{neg:Bool}{T:Nat}{E:Int}(hT:T≠0):decide((bitLen(toQ m neg T E(zx T E)):Int)+zx T E>1024)=decide(9218868437227405312≤p0 m neg T E):=by
 have h1:=Zgq m neg T E
 have hle:=Zfx T E
 congr 1
 simp only[eq_iff_iff]
 unfold p0
 by_cases hn:zx T E= -1074
 ·have hl:bitLen(toQ m neg T E(zx T E))≤54:=by
   have:toQ m neg T E(zx T E)<2^54:=by have e:(2:Nat)^54=18014398509481984:=rfl;omega
   exact len_le this
  omega
 ·have h0:=Zld(m:=m)(neg:=neg)(E:=E) hT(by unfold zx at hn;split at hn<;>omega)
  have hl:=ZzL h0 h1
  rw[hl]
  split<;>omega
def stk(A d:Nat):Nat:=2*(A/2^d)+(if A % 2^d=0 then 0 else 1)
theorem Zup(A d:Nat):(if A % 2^d=0 then 0 else 1)≤1:=by split<;>omega
theorem Zlv(A d j:Nat):stk A d/2^(j+1)=A/2^(d+j):=by
 have e:stk A d/2=A/2^d:=by unfold stk;split<;>omega
 rw[Nat.pow_succ,Nat.mul_comm,← Nat.div_div_eq_div_mul,e,Nat.div_div_eq_div_mul,Nat.pow_add]
theorem Zlw(A d j:Nat):stk A d % 2^(j+1)=2*(A/2^d % 2^j)+(if A % 2^d=0 then 0 else 1):=by
 rw[Nat.pow_succ,Nat.mul_comm,Nat.mod_mul]
 have e:stk A d/2=A/2^d:=by unfold stk;split<;>omega
 rw[e]
 unfold stk
 split<;>omega
theorem Zlx(A d j:Nat):A % 2^(d+j)=A % 2^d+2^d*(A/2^d % 2^j):=by rw[Nat.pow_add,Nat.mod_mul]
theorem Zpr(A d j:Nat):stk A d % 2^(j+1)=0↔A % 2^(d+j)=0:=by
 have hD:0<2^d:=Nat.pow_pos(by omega)
 rw[Zlw,Zlx]
 generalize A/2^d % 2^j=r
 constructor
 ·intro h
  have h1:A % 2^d=0:=by
   by_cases h0:A % 2^d=0
   ·exact h0
   ·rw[if_neg h0] at h;omega
  rw[if_pos h1] at h
  have:r=0:=by omega
  rw[h1,this];simp
 ·intro h
  have h1:A % 2^d=0:=by omega
  rw[if_pos h1]
  have h2:2^d*r=0:=by omega
  rcases Nat.mul_eq_zero.1 h2 with h3 | h3
  ·omega
  ·rw[h3]
theorem Zly{r r' D Q s:Nat}(hD:r'<D)(hQ:0<Q)(hb:s≤1)(hs:s=0↔r'=0):z9(2*r+s)(4*Q)=z9(r'+D*r)(2*(D*Q)):=by
 have hDr:r≤D*r:=Nat.le_mul_of_pos_left r(by omega)
 unfold z9
 by_cases h0:r'+D*r=0
 ·have:r'=0:=by omega
  have:=hs.2 this
  rw[if_pos h0,if_pos(by omega)]
 ·have hz:¬ 2*r+s=0:=by
   intro h
   apply h0
   have h1:r=0:=by omega
   have h2:=hs.1(by omega)
   rw[h1,h2];rfl
  rw[if_neg h0,if_neg hz]
  rcases Nat.lt_trichotomy r Q with h | h | h
  ·have h1:D*r+D≤D*Q:=by rw[← Nat.mul_succ];exact Nat.mul_le_mul_left D h
   rw[if_pos(by omega),if_pos(by omega)]
  ·subst h
   by_cases hs0:s=0
   ·have:=hs.1 hs0
    rw[if_neg(by omega),if_pos(by omega),if_neg(by omega),if_pos(by omega)]
   ·have:r'≠0:=fun h=>hs0(hs.2 h)
    rw[if_neg(by omega),if_neg(by omega),if_neg(by omega),if_neg(by omega)]
  ·have h1:D*Q+D≤D*r:=by rw[← Nat.mul_succ];exact Nat.mul_le_mul_left D h
   rw[if_neg(by omega),if_neg(by omega),if_neg(by omega),if_neg(by omega)]
theorem Zps(A d j:Nat):z9(stk A d % 2^(j+2))(2^(j+2))=z9(A % 2^(d+(j+1)))(2^(d+(j+1))):=by
 have hD:0<2^d:=Nat.pow_pos(by omega)
 have hQ:0<2^j:=Nat.pow_pos(by omega)
 have eP:2^(j+1+1)=4*2^j:=by rw[Nat.pow_succ,Nat.pow_succ];omega
 have eP2:2^(d+(j+1))=2*(2^d*2^j):=by rw[Nat.pow_add,Nat.pow_succ,← Nat.mul_assoc];omega
 have e1:=Zlw A d(j+1)
 have e2:=Zlx A d(j+1)
 rw[show j+2=(j+1)+1 by omega,e1,e2,eP,eP2]
 exact Zly(Nat.mod_lt A hD) hQ(Zup A d)(by split<;>omega)
theorem ZzM(m:Int)(neg:Bool)(A d j:Nat):rq m neg(stk A d)(j+2)=rq m neg A(d+(j+1)):=by
 unfold rq
 rw[Zps,show j+2=(j+1)+1 by omega,Zlv]
theorem Zhk(m:Int)(neg:Bool)(A d:Nat){F e:Int}(h:F+d+1≤e):toQ m neg(stk A d)(F+d-1) e=toQ m neg A F e:=by
 obtain⟨j,hj⟩:∃ j:Nat,e=F+d+1+j:=⟨(e-(F+d+1)).toNat,by omega⟩
 unfold toQ
 rw[if_neg(by omega),if_neg(by omega),show(e-(F+d-1)).toNat=j+2 by omega,show(e-F).toNat=d+(j+1) by omega,ZzM]
theorem Zlz(A d:Nat){F e:Int}(h:F+d+1≤e):toL(stk A d)(F+d-1) e=toL A F e:=by
 obtain⟨j,hj⟩:∃ j:Nat,e=F+d+1+j:=⟨(e-(F+d+1)).toNat,by omega⟩
 unfold toL
 rw[if_neg(by omega),if_neg(by omega),show(e-(F+d-1)).toNat=j+1+1 by omega,show(e-F).toNat=d+(j+1) by omega]
 congr 1
 simp only[ne_eq,eq_iff_iff]
 exact not_congr(Zpr A d(j+1))
theorem Zl0{A d:Nat}(h:A/2^d≠0):bitLen(stk A d)=bitLen(A/2^d)+1:=by
 have e:stk A d/2^1=A/2^d:=by
  have:=Zlv A d 0
  simpa using this
 rw[bitLen_shift(stk A d) 1(by rw[e];exact h),e]
 omega
theorem Zl1{A d:Nat}{F:Int}(h:A/2^d≠0):lgN(stk A d)(F+d-1)=lgN A F:=by
 have e:=bitLen_shift A d h
 unfold lgN
 rw[Zl0 h]
 omega
theorem Zcz{m:Int}{neg:Bool}{A d:Nat}{F:Int}(h:A % 2^d=0∨54≤bitLen(A/2^d)):rnP m neg(stk A d)(F+d-1)=rnP m neg A F∧rnF m neg(stk A d)(F+d-1)=rnF m neg A F:=by
 by_cases h0:A % 2^d=0
 ·have e1:stk A d=A/2^d*2^1:=by unfold stk;rw[if_pos h0];omega
  have e2:A=A/2^d*2^d:=by
   have:=Nat.div_add_mod A(2^d)
   rw[h0,Nat.mul_comm] at this
   omega
  have p1:=ZaB m neg(A/2^d) 1(F+d)
  have p2:=ZaB m neg(A/2^d) d(F+d)
  have f1:=ZaC m neg(A/2^d) 1(F+d)
  have f2:=ZaC m neg(A/2^d) d(F+d)
  rw[show F+(d:Int)-((1:Nat):Int)=F+d-1 by omega,← e1] at p1 f1
  rw[show F+(d:Int)-(d:Int)=F by omega,← e2] at p2 f2
  exact⟨by rw[p1,p2],by rw[f1,f2]⟩
 ·have hb:54≤bitLen(A/2^d):=by exact h.resolve_left h0
  have hq:A/2^d≠0:=fun h=>by rw[h] at hb;simp [bitLen] at hb
  have hA:A≠0:=fun h=>h0(by rw[h];simp)
  have hs:stk A d≠0:=by unfold stk;omega
  have hl:=Zl1(F:=F) hq
  have hlw:zx(stk A d)(F+d-1)=zx A F:=by unfold zx;rw[hl]
  have hlg:lgN A F=F+d+bitLen(A/2^d)-1:=by rw[← hl];unfold lgN;rw[Zl0 hq];omega
  have hge:F+d+1≤zx A F:=by unfold zx;split<;>omega
  have hp:p0 m neg(stk A d)(F+d-1)=p0 m neg A F:=by unfold p0;rw[hlw,Zhk m neg A d hge]
  have ht:Zd6 m neg(stk A d)(F+d-1)=Zd6 m neg A F:=by
   unfold Zd6
   rw[hl]
   by_cases hn:lgN A F= -1023
   ·rw[if_pos hn,if_pos hn,Zhk m neg A d(by omega)]
   ·rw[if_neg hn,if_neg hn]
  unfold rnP rnF
  rw[if_neg hs,if_neg hA,if_neg hs,if_neg hA,hp,hlw,Zlz A d hge,ht]
  exact⟨rfl,rfl⟩
end Go.Rn
namespace Go.Rn
open Go.Nt Go.Wd Go.Pt
def dvK(A B k:Nat):Nat:=2*(A*2^k/B)+(if A*2^k % B=0 then 0 else 1)
theorem Zl2{A B:Nat}(k:Nat):A*2^k % (B*2^k)=A % B*2^k:=Nat.mul_mod_mul_right(2^k) A B
theorem Zl3(A B k j:Nat):dvK A B(k+j)/2^(j+1)=A*2^k/B:=by
 have hp:0<2^j:=Nat.pow_pos(by omega)
 have e1:A*2^(k+j)/B/2^j=A*2^k/B:=by
  rw[Nat.div_div_eq_div_mul,Nat.pow_add,← Nat.mul_assoc,Nat.mul_div_mul_right _ _ hp]
 have:dvK A B(k+j)/2=A*2^(k+j)/B:=by unfold dvK;split<;>omega
 rw[Nat.pow_succ,Nat.mul_comm(2^j) 2,← Nat.div_div_eq_div_mul,this,e1]
theorem Zl4(A B k j:Nat):stk(dvK A B(k+j))(j+1)=dvK A B k:=by
 have hp:0<2^j:=Nat.pow_pos(by omega)
 have e1:A*2^(k+j)/B/2^j=A*2^k/B:=by
  rw[Nat.div_div_eq_div_mul,Nat.pow_add,← Nat.mul_assoc,Nat.mul_div_mul_right _ _ hp]
 have e2:=Zl3 A B k j
 have e3:dvK A B(k+j) % 2^(j+1)=0↔A*2^k % B=0:=by
  have d2:dvK A B(k+j)/2=A*2^(k+j)/B:=by unfold dvK;split<;>omega
  have m2:dvK A B(k+j) % 2=if A*2^(k+j) % B=0 then 0 else 1:=by unfold dvK;split<;>omega
  rw[Nat.pow_succ,Nat.mul_comm(2^j) 2,Nat.mod_mul,d2,m2]
  have e:A*2^(k+j) % B+B*(A*2^(k+j)/B % 2^j)=A*2^k % B*2^j:=by
   rw[← Nat.mod_mul,← Zl2,Nat.mul_assoc,← Nat.pow_add]
  constructor
  ·intro h
   have h1:A*2^(k+j) % B=0:=by
    by_cases h0:A*2^(k+j) % B=0
    ·exact h0
    ·rw[if_neg h0] at h;omega
   have h2:A*2^(k+j)/B % 2^j=0:=by omega
   rw[h1,h2,Nat.mul_zero] at e
   rcases Nat.mul_eq_zero.1 e.symm with h3 | h3
   ·exact h3
   ·omega
  ·intro h
   rw[h,Nat.zero_mul] at e
   have h1:A*2^(k+j) % B=0:=by omega
   rw[if_pos h1]
   rcases Nat.mul_eq_zero.1(show B*(A*2^(k+j)/B % 2^j)=0 by omega) with h2 | h2
   ·rw[h2,Nat.div_zero,Nat.zero_mod]
   ·rw[h2]
 unfold stk
 rw[e2]
 by_cases h:A*2^k % B=0
 ·rw[if_pos(e3.2 h)];unfold dvK;rw[if_pos h]
 ·rw[if_neg(fun h'=>h(e3.1 h'))];unfold dvK;rw[if_neg h]
end Go.Rn
namespace Go.Rd
def ZJ(c b:Int):Int:=if 48≤c∧c≤57 then c-48 else if b=16∧97≤c∧c≤102 then c-87 else -1
theorem Zf4(c b:Int): -1≤ZJ c b∧ZJ c b<16:=by
 unfold ZJ
 split
 ·omega
 ·split<;>omega
theorem Zpt(c:Int):ZJ c 10<10:=by
 unfold ZJ
 split
 ·omega
 ·rw[if_neg(by omega)];omega
def lq8(c:UInt8):Int:=((c.toNat:Nat):Int)
def zi(b:Int)(l:List UInt8):Bool:=l.all fun c=>decide(0≤ZJ(lq8 c) b)
def nmB(b:Int)(l:List UInt8):Nat:=l.foldl(fun a c=>a*b.toNat+(ZJ(lq8 c) b).toNat) 0
def sc1(b:Int):Bool→List UInt8→List UInt8×Nat×List UInt8
 | _,[]=>([],0,[])
 | p,c::l=>
  if lq8 c=46∧p=false then sc1 b true l
  else if 0≤ZJ(lq8 c) b then(c::(sc1 b p l).1,(if p=true then 1 else 0)+(sc1 b p l).2.1,(sc1 b p l).2.2)
  else([],0,c::l)
def pw1:Nat→List UInt8→Nat×Bool
 | a,[]=>(a,true)
 | a,c::l=>if 0≤ZJ(lq8 c) 10 then pw1(min(10*a+(ZJ(lq8 c) 10).toNat) 2000000) l else(a,false)
def sgT:List UInt8→Bool×List UInt8
 | []=>(false,[])
 | c::r=>if lq8 c=45 then(true,r) else if lq8 c=43 then(false,r) else(false,c::r)
def scE(b:Int):List UInt8→Int×Bool
 | []=>(0,decide(b=10))
 | c::r=>
  if(b=10∧lq8 c≠101)∨(b=16∧lq8 c≠112) then(0,false)
  else if(sgT r).2=[] then(0,false)
  else if(pw1 0(sgT r).2).2=false then(((pw1 0(sgT r).2).1:Nat),false)
  else(if(sgT r).1=true then -((pw1 0(sgT r).2).1:Nat) else((pw1 0(sgT r).2).1:Nat),true)
def scA(b:Int)(l:List UInt8):Int×Bool:=if(sc1 b false l).1=[] then(0,false) else scE b(sc1 b false l).2.2
theorem Zbo{l:List UInt8}{i:Nat}(h:i<l.length):l.drop i=l.getD i 0::l.drop(i+1):=by
 rw[List.getD_eq_getElem?_getD,List.getElem?_eq_getElem h,Option.getD_some]
 exact List.drop_eq_getElem_cons h
theorem ZzN(a:Nat)(l:List UInt8)(h:a≤2000000):(pw1 a l).1≤2000000:=by
 induction l generalizing a with
 | nil=>exact h
 | cons c l ih=>
  unfold pw1
  split
  ·exact ih _(by omega)
  ·exact h
theorem ZzO(b:Int)(r:List UInt8): -2000000≤(scE b r).1∧(scE b r).1≤2000000:=by
 unfold scE
 split
 ·exact⟨show(-2000000:Int)≤0 by decide,show(0:Int)≤2000000 by decide⟩
 ·rename_i c r
  have:=ZzN 0(sgT r).2(by omega)
  split
  ·exact⟨by decide,by decide⟩
  ·split
   ·exact⟨by decide,by decide⟩
   ·split
    ·constructor<;>dsimp only<;>omega
    ·dsimp only
     split<;>omega
theorem ZeS(b:Int)(p:Bool)(l:List UInt8):(sc1 b p l).1.length≤l.length∧(sc1 b p l).2.1≤(sc1 b p l).1.length∧zi b(sc1 b p l).1=true:=by
 induction l generalizing p with
 | nil=>exact⟨Nat.le_refl _,Nat.le_refl _,rfl⟩
 | cons c l ih=>
  unfold sc1
  split
  ·obtain⟨h1,h2,h3⟩:=ih true
   exact⟨by rw[List.length_cons];omega,h2,h3⟩
  ·split
   ·rename_i h
    obtain⟨h1,h2,h3⟩:=ih p
    refine⟨by dsimp only;rw[List.length_cons,List.length_cons];omega,by dsimp only;rw[List.length_cons];split<;>omega,?_⟩
    show zi b(c::(sc1 b p l).1)=true
    unfold zi at h3 ⊢
    rw[List.all_cons,decide_eq_true h,h3]
    rfl
   ·exact⟨Nat.zero_le _,Nat.le_refl _,rfl⟩
theorem ZaN(b:Int)(l:List UInt8)(c:UInt8):nmB b(l++[c])=nmB b l*b.toNat+(ZJ(lq8 c) b).toNat:=by
 unfold nmB
 rw[List.foldl_append]
 rfl
theorem Zf5(b:Int)(l:List UInt8){i:Nat}(h:i<l.length):nmB b(l.take(i+1))=nmB b(l.take i)*b.toNat+(ZJ(lq8(l.getD i 0)) b).toNat:=by
 rw[← ZaN]
 congr 1
 rw[List.getD_eq_getElem?_getD,List.getElem?_eq_getElem h,Option.getD_some]
 exact(List.take_append_getElem h).symm
theorem Zds{b:Int}(hb:b=10∨b=16)(l:List UInt8):nmB b l<b.toNat^l.length:=by
 have key:∀ (l:List UInt8)(k:Nat),l.length=k→nmB b l<b.toNat^k:=by
  intro l k
  induction k generalizing l with
  | zero=>
   intro h
   rw[List.eq_nil_of_length_eq_zero h]
   exact Nat.one_pos
  | succ k ih=>
   intro h
   have hne:l≠[]:=fun h0=>by rw[h0] at h;cases h
   obtain⟨l',c,rfl⟩:∃ l' c,l=l'++[c]:=⟨l.dropLast,l.getLast hne,(List.dropLast_concat_getLast hne).symm⟩
   have h1:=ih l'(by simpa using h)
   rw[ZaN,Nat.pow_succ]
   have hd:(ZJ(lq8 c) b).toNat<b.toNat:=by
    rcases hb with rfl | rfl
    ·have:=Zpt(lq8 c);omega
    ·have:=(Zf4(lq8 c) 16).2;omega
   calc nmB b l'*b.toNat+(ZJ(lq8 c) b).toNat<nmB b l'*b.toNat+b.toNat:=by omega
    _=(nmB b l'+1)*b.toNat:=by rw[Nat.add_mul,Nat.one_mul]
    _≤b.toNat^k*b.toNat:=Nat.mul_le_mul_right _ h1
 exact key l l.length rfl
open Go.Rn
def trZ(l:List UInt8):List UInt8:=l.dropWhile fun c=>lq8 c==48
def upN(A B:Nat):Nat:=((bitLen B:Int)-(bitLen A:Int)+80).toNat
def dnA(b:Int)(l:List UInt8)(k P:Int):Nat×Int:=
 if b=16 then(nmB 16 l,P-4*k)
 else if 320<P-k+(l.length:Nat) then(1,3000)
 else if P-k+(l.length:Nat)< -340 then(1,-3000)
 else if 0≤P-k then(nmB 10 l*10^(P-k).toNat,0)
 else(dvK(nmB 10 l)(10^(k-P).toNat)(upN(nmB 10 l)(10^(k-P).toNat)),-((upN(nmB 10 l)(10^(k-P).toNat):Nat):Int)-1)
theorem ZsJ{A B:Nat}(hA:A≠0):2^79*B≤A*2^upN A B:=by
 have h1:=(bitLen_spec A).2 hA
 have h2:=(bitLen_spec B).1
 have h3:=Za1 hA
 have h4:bitLen B+80≤upN A B+bitLen A:=by unfold upN;omega
 refine Nat.le_trans(Nat.mul_le_mul_left _(Nat.le_of_lt h2)) ?_
 rw[← Nat.pow_add]
 refine Nat.le_trans(Nat.pow_le_pow_right(by omega)(show 79+bitLen B≤(bitLen A-1)+upN A B by omega)) ?_
 rw[Nat.pow_add]
 exact Nat.mul_le_mul_right _ h1
theorem Zd8(j:Nat):(10:Nat)^j<2^(4*j+1):=by
 have h1:(10:Nat)^j≤16^j:=Nat.pow_le_pow_left(by omega) j
 have h2:(16:Nat)^j=2^(4*j):=by rw[Nat.pow_mul]
 have h3:(2:Nat)^(4*j)<2^(4*j+1):=Nat.pow_lt_pow_right(by omega)(by omega)
 omega
theorem ZdU{b:Int}(hb:b=10∨b=16)(l:List UInt8):nmB b l<2^(4*l.length):=by
 refine Nat.lt_of_lt_of_le(Zds hb l) ?_
 have h1:b.toNat^l.length≤16^l.length:=Nat.pow_le_pow_left(by omega) _
 have h2:(16:Nat)^l.length=2^(4*l.length):=by rw[Nat.pow_mul]
 omega
theorem Zc0{b:Int}{l:List UInt8}(h:zi b l=true):zi b(trZ l)=true:=by
 unfold zi at*
 rw[List.all_eq_true] at*
 exact fun x hx=>h x((List.dropWhile_sublist _).subset hx)
theorem ZcY(l:List UInt8):(trZ l).length≤l.length:=(List.dropWhile_sublist _).length_le
theorem Zc1{c:UInt8}{l:List UInt8}:trZ(c::l)=if lq8 c=48 then trZ l else c::l:=by
 unfold trZ
 rw[List.dropWhile_cons]
 by_cases h:lq8 c=48<;>simp [h]
theorem ZaO{b:Int}{l r:List UInt8}{c:UInt8}(h:zi b l=true)(he:trZ l=c::r):0<ZJ(lq8 c) b:=by
 have h1:=Zc0 h
 rw[he] at h1
 unfold zi at h1
 rw[List.all_cons,Bool.and_eq_true] at h1
 have h2:=of_decide_eq_true h1.1
 have h3:lq8 c≠48:=by
  intro h4
  clear h h1
  induction l with
  | nil=>cases he
  | cons x l ih=>
   rw[Zc1] at he
   by_cases hx:lq8 x=48
   ·rw[if_pos hx] at he;exact ih he
   ·rw[if_neg hx] at he
    cases he
    exact hx h4
 unfold ZJ at*
 split
 ·omega
 ·rename_i h5
  rw[if_neg h5] at h2
  split
  ·omega
  ·rename_i h6
   rw[if_neg h6] at h2
   omega
theorem Zbp{b:Int}(hb:b=10∨b=16){c:UInt8}{r:List UInt8}(h:0<ZJ(lq8 c) b):0<nmB b(c::r):=by
 have key:∀ (r:List UInt8)(a:Nat),0<a→0<r.foldl(fun a c=>a*b.toNat+(ZJ(lq8 c) b).toNat) a:=by
  intro r
  induction r with
  | nil=>intro a h;exact h
  | cons x r ih=>
   intro a h
   refine ih _ ?_
   exact Nat.lt_of_lt_of_le(Nat.mul_pos h(by omega))(Nat.le_add_right _ _)
 unfold nmB
 rw[List.foldl_cons]
 exact key r _(by rw[Nat.zero_mul];omega)
def rdB(u:List UInt8):Int×List UInt8:=if 1<u.length∧u.take 2=[48,120] then(16,u.drop 2) else(10,u)
def rdQ(m:Int)(n:Bool)(b:Int)(v:List UInt8):Int×Int×Int:=
 if(scA b v).2=false then(0,0,3)
 else if trZ(sc1 b false v).1=[] then(if n=true then 9223372036854775808 else 0,0,0)
 else(if n=true then 9223372036854775808+rnP m n(dnA b(trZ(sc1 b false v).1)((sc1 b false v).2.1:Nat)(scA b v).1).1(dnA b(trZ(sc1 b false v).1)((sc1 b false v).2.1:Nat)(scA b v).1).2 else rnP m n(dnA b(trZ(sc1 b false v).1)((sc1 b false v).2.1:Nat)(scA b v).1).1(dnA b(trZ(sc1 b false v).1)((sc1 b false v).2.1:Nat)(scA b v).1).2,rnF m n(dnA b(trZ(sc1 b false v).1)((sc1 b false v).2.1:Nat)(scA b v).1).1(dnA b(trZ(sc1 b false v).1)((sc1 b false v).2.1:Nat)(scA b v).1).2,0)
def rdP(m:Int)(l:List UInt8):Int×Int×Int:=
 if 65536<l.length then(0,0,2)
 else if(sgT l).2=[110,97,110] then(9221120237041090560,0,0)
 else if(sgT l).2=[105,110,102] then(if(sgT l).1=true then 18442240474082181120 else 9218868437227405312,0,0)
 else rdQ m(sgT l).1(rdB(sgT l).2).1(rdB(sgT l).2).2
theorem ZzP(b:Int)(hb:b=10∨b=16)(l:List UInt8)(h:l.length≤10000)(k P:Int)(hk:0≤k∧k≤10000)(hP: -2000000≤P∧P≤2000000):(dnA b l k P).1<2^(16*5625)∧ -4000000≤(dnA b l k P).2∧(dnA b l k P).2≤4000000:=by
 obtain⟨J,hJ⟩:∃ J,J=16*5625:=⟨_,rfl⟩
 rw[← hJ]
 have hn:=ZdU hb l
 have pb:∀ {j:Nat},j≤J→(2:Nat)^j≤2^J:=fun h=>Nat.pow_le_pow_right(by omega) h
 unfold dnA
 by_cases h16:b=16
 ·rw[if_pos h16]
  rw[h16] at hn
  exact⟨Nat.lt_of_lt_of_le hn(pb(by omega)),by dsimp only;omega,by dsimp only;omega⟩
 rw[if_neg h16]
 have h10:b=10:=by omega
 rw[h10] at hn
 have one:(1:Nat)<2^J:=Nat.one_lt_two_pow(by omega)
 split
 ·exact⟨one,by dsimp only;omega,by dsimp only;omega⟩
 split
 ·exact⟨one,by dsimp only;omega,by dsimp only;omega⟩
 rename_i h1 h2
 split
 ·have tb:=Zd8(P-k).toNat
  refine⟨?_,by dsimp only;omega,by dsimp only;omega⟩
  dsimp only
  refine Nat.lt_of_lt_of_le(Nat.mul_lt_mul'' hn tb) ?_
  rw[← Nat.pow_add]
  exact pb(by omega)
 ·have tb:=Zd8(k-P).toNat
  have bA:=len_le hn
  have bB:=len_le tb
  have hu:upN(nmB 10 l)(10^(k-P).toNat)≤41600:=by unfold upN;omega
  refine⟨?_,by dsimp only;omega,by dsimp only;omega⟩
  dsimp only
  unfold dvK
  have h3:=Nat.div_le_self(nmB 10 l*2^upN(nmB 10 l)(10^(k-P).toNat))(10^(k-P).toNat)
  have h4:nmB 10 l*2^upN(nmB 10 l)(10^(k-P).toNat)<2^(4*l.length+upN(nmB 10 l)(10^(k-P).toNat)):=by
   rw[Nat.pow_add]
   exact Nat.mul_lt_mul_of_pos_right hn(Nat.pow_pos(by omega))
  have h5:(2:Nat)^(4*l.length+upN(nmB 10 l)(10^(k-P).toNat))*4≤2^J:=by
   rw[show(4:Nat)=2^2 from rfl,← Nat.pow_add]
   exact pb(by omega)
  refine Nat.lt_of_lt_of_le ?_ h5
  split<;>omega
end Go.Rd
namespace Go.Proofs.YtjlponbdflkbjaaGreatDoor
open Go.KRun Go.Rd
set_option maxRecDepth 100000
theorem ZaZ:Z4 []:=fun _ h=>by cases h
def bR(l:List UInt8):Value:= .string⟨⟨l⟩⟩
def byR(l:List UInt8)(i:Int):Int:=(((l.getD i.toNat 0).toNat:Nat):Int)
def sK(F:Func):Nat→Code
 | 0=>Zt F
 | n+1=>Z0(sK F n)
def sP(F:Func)(k:Nat):Code:=Z5(sK F k)
def pO(k:Nat):Value:= .pointer(some⟨k,0,none⟩)
theorem Zc2(l l':List UInt8):((⟨⟨l⟩⟩:ByteArray)==⟨⟨l'⟩⟩)=decide(l=l'):=by
 rw[beq_toListBytes,ByteArray.toList_eq,ByteArray.toList_eq]
 show(l==l')=decide(l=l')
 by_cases h:l=l'
 ·rw[decide_eq_true h];simpa using h
 ·rw[decide_eq_false h];simpa using h
theorem ZC{x y:Int}(h:x=y):(x==y)=true:=by simpa using h
theorem Zl{x y:Int}(h:x≠y):(x==y)=false:=by simpa using h
theorem ZsK{x y:Int}(h:x≠y):(x !=y)=true:=by simpa using h
theorem ZsL{x y:Int}(h:x=y):(x !=y)=false:=by simpa using h
theorem wN{n:Nat}(h:n<1000000000):IntKind.i64.wrap(((n:Nat):Int)+1)=((n+1:Nat):Int):=by rw[Zw(by omega)(by omega)];omega
end Go.Proofs.YtjlponbdflkbjaaGreatDoor
namespace Go.KRun
open Go.RowKit
def ml(front:List Value)(b:Nat)(g:Nat→Value)(mid:List Value)(n:Nat)(g':Nat→Value):List Value:=front++(tl b g++(mid++tl n g'))
def ZdV(r:Option(Ex×Lf×Lg))(a b c n:Nat)(e:Ex)(front mid:List Value)(h:Hp)(cs:Log):Prop:=
 r.map(fun r=>(r.1,r.2.1.1.take a,((r.2.1.1.drop a).take b).length,((r.2.1.1.drop a).drop b).take c,(((r.2.1.1.drop a).drop b).drop c).length,r.2.1.2.1,r.2.2.cs))=some(e,front,b,mid,n,h,cs)∧
  r.map(fun r=>r.2.2.es.map Prod.fst)=r.map(fun r=>r.2.2.es.map Prod.snd)∧r.map(fun r=>r.2.2.bs.map Prod.fst)=r.map(fun r=>r.2.2.bs.map Prod.snd)
theorem Zj3{r:Option(Ex×Lf×Lg)}{a b c n:Nat}{e:Ex}{front mid:List Value}{h:Hp}{cs:Log}(hG:ZdV r a b c n e front mid h cs)(hcs:Z4 cs):∃ g g' s L,r=some(e,(ml front b g mid n g',h,s),L)∧L.ok:=by
 obtain⟨h1,h5,h6⟩:=hG
 cases r with
 | none=>cases h1
 | some r=>
  simp only[Option.map_some,Option.some.injEq,Prod.mk.injEq] at h1 h5 h6
  obtain⟨e',⟨t',h',s'⟩,L⟩:=r
  simp only at h1 h5 h6
  obtain⟨h1,h2,h3,h4,h7,h8,h9⟩:=h1
  subst h1 h8
  obtain⟨g,hg⟩:=Zj0 h3
  obtain⟨g',hg'⟩:=Zj0 h7
  refine⟨g,g',s',L,?_,by rw[h9];exact hcs,ZdR _ h5,ZdR _ h6⟩
  unfold ml
  rw[← h2,← hg,← h4,← hg',List.take_append_drop,List.take_append_drop,List.take_append_drop]
theorem zA{T:Tab}(hT:TabOk T){N:Nat}{c:Code}{t:List Value}{h h':Hp}{s s0:List Dec}{a b k n:Nat}{e:Ex}{front mid:List Value}{cs:Log}(hG:ZdV(evC T N false c(t,h,s)⟨[],[],[]⟩) a b k n e front mid h' cs)(hcs:Z4 cs):
  Runs T c(t,h,s0) fun e' y=>e'=e∧(∃ g g',y.1=ml front b g mid n g')∧y.2.1=h':=by
 obtain⟨g,g',s',L,hr,hL⟩:=Zj3 hG hcs
 refine Runs.script((Runs.ev hT hr hL).mono fun e2 y he=> ?_)
 obtain⟨rfl,rfl⟩:=he
 exact⟨rfl,⟨g,g',rfl⟩,rfl⟩
theorem Zuq{m:Mp}{B:Nat}{t t':List Value}{h h':Hp}{s:List Dec}{a:Act}{w:World}(R:Rel m B(t,h,s) a w)(f:Nat→Nat)(hl:h'.l.length=h'.n)
  (hb:∀ i x,h'.blk? i=some x→(∀ v∈x.1,still v=true)∧∃ y r,h.blk?(f i)=some y∧y.2=x.2∧y.1=x.1++r)
  (hi:∀ i j x y,h'.blk? i=some x→h'.blk? j=some y→ro x.2=false→ro y.2=false→f i=f j→i=j)
  (ht:t'.map(mv fun i=>m(f i))=t.map(mv m))(hw:∀ v∈t',lt h'.n v=true):Rel(fun i=>m(f i)) B(t',h',s) a w:=by
 have E:=R.emb
 refine⟨by rw[R.tmps];simp only;rw[ht],R.dfr,?_,hw⟩
 refine⟨hl,?_,?_,?_,?_,?_,E.base,E.ice,?_⟩
 ·intro b x hx ht
  obtain⟨q1,y,r,q2,q3,q4⟩:=hb b x hx
  obtain⟨r0,z,e1,e2,e3⟩:=E.lies(f b) y q2(by rw[q3];exact ht)
  rw[q4,List.map_append,ZdI(m':=fun i=>m(f i)) q1] at e1 e2
  refine⟨r.map(mv1 m)++r0,z,by rw[← e1];simp;omega,by rw[e2,List.append_assoc],by rw[← q3];exact e3⟩
 ·intro b x hx hr
  obtain⟨_,y,r,q2,q3,_⟩:=hb b x hx
  exact E.low(f b) y q2(by rw[q3];exact hr)
 ·intro b x hx ht hr
  obtain⟨_,y,r,q2,q3,_⟩:=hb b x hx
  exact E.ros(f b) y q2(by rw[q3];exact ht)(by rw[q3];exact hr)
 ·intro b b' x x' hx hx' hr hr' he
  obtain⟨_,y,r,q2,q3,_⟩:=hb b x hx
  obtain⟨_,y',r',q2',q3',_⟩:=hb b' x' hx'
  exact hi b b' x x' hx hx' hr hr'(E.inj _ _ y y' q2 q2'(by rw[q3];exact hr)(by rw[q3'];exact hr') he)
 ·intro b x hx v hv
  exact zj(Nat.lt_of_le_of_lt(Nat.zero_le _)(Hp.blk_lt hx))((hb b x hx).1 v hv)
 ·intro b x hx ha
  obtain⟨q1,y,r,q2,q3,q4⟩:=hb b x hx
  obtain⟨e1,r0,t0,z,e2⟩:=E.abs(f b) y q2(by rw[q3];exact ha)
  rw[q3] at e1 e2
  rw[q4,List.map_append,ZdI(m':=fun i=>m(f i)) q1] at e2
  exact⟨e1,r.map(mv1 m)++r0,t0,z,by rw[e2,List.append_assoc]⟩
theorem Z9b{m:Mp}(f:Nat→Nat){front front' rest:List Value}(h:front'.map(rn f)=front):(front'++rest.map(fun v=>Value.iface ZW(mv m v))).map(mv fun i=>m(f i))=(front++rest).map(mv m):=by
 rw[List.map_append,List.map_append,← h,List.map_map,List.map_map]
 congr 1
 ·exact List.map_congr_left fun v _=>(Zdx m f v).symm
theorem RunsW.small{T:Tab}{c:Code}{x:Lf}{P:Ex→Lf→Prop}(hr:RunsW T c x P){P':Ex→Lf→Prop}
  (hp:∀ e y,P e y→P' e y∨∃ (front front' rest:List Value)(h h':Hp)(s:List Dec)(f:Nat→Nat),y=(front++rest,h,s)∧front'.map(rn f)=front∧h'.l.length=h'.n∧0<h'.n∧
   (∀ i x,h'.blk? i=some x→(∀ v∈x.1,still v=true)∧∃ y r,h.blk?(f i)=some y∧y.2=x.2∧y.1=x.1++r)∧
   (∀ i j x y,h'.blk? i=some x→h'.blk? j=some y→ro x.2=false→ro y.2=false→f i=f j→i=j)∧(∀ v∈front',lt h'.n v=true)∧∀ g,P' e(front'++tl rest.length g,h',s)):RunsW T c x P':=by
 intro m B a w R Q hQ
 refine hr m B a w R Q fun e y he m' a' w' R' hb'=> ?_
 rcases hp e y he with h1 | ⟨front,front',rest,h,h',s,f,rfl,e1,e2,e3,e4,e5,e6,e7⟩
 ·exact hQ e y h1 m' a' w' R' hb'
 ·obtain⟨g,hg⟩:=Zj0(J:=rest.map(fun v=>Value.iface ZW(mv m' v)))(n:=rest.length)(by simp)
  refine hQ e _(e7 g) _ a' w'(Zuq R' f e2 e4 e5(by rw[← hg];exact Z9b f e1) ?_) hb'
  intro v hv
  rw[← hg] at hv
  rcases List.mem_append.1 hv with hv | hv
  ·exact e6 v hv
  ·obtain⟨u,_,rfl⟩:=List.mem_map.1 hv
   simp [lt,lt2,lt1,e3,ZW]
theorem RunsW.forLoop{T:Tab}{c:Code}{id:Nat}{x:Lf}{P:Lf→Prop}{R:Lf→Prop}(Inv:Nat→Lf→Prop)
  (round:∀ n x,Inv n x→RunsW T c x fun e y=>match e with | none=>∃ n',n'<n∧Inv n' y | some none=>R y | some(some id')=>id'=id∧P y){n:Nat}(h0:Inv n x):
  RunsW T(.block id(.loop c)) x fun e y=>match e with | none=>P y | some none=>R y | some(some _)=>False:=by
 refine RunsW.block(P1:=fun e y=>match e with | none=>False | some none=>R y | some(some id')=>id'=id∧P y) ?_(fun y he=>he.elim)(fun y he=>he)(fun y he=>he.2)(fun id' y hid he=>absurd he.1 hid)
 refine RunsW.loop Inv(fun n x hI=>(round n x hI).mono fun e y he=> ?_) h0
 match e,he with
 | none,he=>exact he
 | some none,he=>exact he
 | some(some id'),he=>exact he
theorem Ze{T:Tab}(hT:TabOk T){N:Nat}{c:Code}{t:List Value}{h h':Hp}{s s0:List Dec}{k n:Nat}{e:Ex}{front:List Value}{cs:Log}(hG:Zg(evC T N false c(t,h,s)⟨[],[],[]⟩) k n e front h' cs)(hcs:Z4 cs):
  RunsW T c(t,h,s0) fun e' y=>e'=e∧(∃ g,y.1=front++tl n g)∧y.2.1=h':=(Zb hT hG hcs).w
theorem Zgt(n:Nat)(g:Nat→Value):(tl n g).length=n:=by simp [tl]
theorem ZeT{x y:List Value×TypeId}{i:Nat}{z:List Value×TypeId}(h:(⟨2,[y,x]⟩:Hp).blk? i=some z):(i=0∧z=x)∨(i=1∧z=y):=by
 have:i<2:=Hp.blk_lt h
 have:i=0∨i=1:=by omega
 rcases this with rfl | rfl
 ·exact .inl⟨rfl,(Option.some.inj h).symm⟩
 ·exact .inr⟨rfl,(Option.some.inj h).symm⟩
theorem RunsW.two{T:Tab}{c:Code}{x0:Lf}{ex:Ex}{front front':List Value}{n b:Nat}{h:Hp}{x y:List Value×TypeId}(hr:RunsW T c x0 fun e z=>e=ex∧(∃ g,z.1=front++tl n g)∧z.2.1=h)
  (hf:front'.map(rn(keep2 b))=front)(hx:h.blk? 0=some x)(hy:h.blk? b=some y)(hb:b≠0)(sx:∀ v∈x.1,still v=true)(sy:∀ v∈y.1,still v=true)(hw:∀ v∈front',lt 2 v=true):
  RunsW T c x0 fun e z=>e=ex∧(∃ g,z.1=front'++tl n g)∧z.2.1=⟨2,[y,x]⟩:=by
 refine hr.small fun e z he=> .inr ?_
 obtain⟨rfl,⟨g,h1⟩,h2⟩:=he
 obtain⟨t,h',s⟩:=z
 simp only at h1 h2
 subst h1 h2
 refine⟨front,front',tl n g,h',⟨2,[y,x]⟩,s,keep2 b,rfl,hf,rfl,(by show 0<2;omega),fun i z hz=> ?_,fun i j u v hi hj _ _ hij=> ?_,hw,fun g'=>⟨rfl,⟨g',by rw[Zgt]⟩,rfl⟩⟩
 ·rcases ZeT hz with⟨rfl,rfl⟩ | ⟨rfl,rfl⟩
  ·exact⟨sx,z,[],by simpa [keep2] using hx,rfl,by simp⟩
  ·exact⟨sy,z,[],by simpa [keep2] using hy,rfl,by simp⟩
 ·rcases ZeT hi with⟨rfl,_⟩ | ⟨rfl,_⟩<;>rcases ZeT hj with⟨rfl,_⟩ | ⟨rfl,_⟩
  ·rfl
  ·simp [keep2] at hij;exact absurd hij.symm hb
  ·simp [keep2] at hij;exact absurd hij hb
  ·rfl
def zC(k b:Nat)(i:Nat):Nat:=if Nat.blt i k=true then i else b
theorem Zj4{base:List(List Value×TypeId)}{k:Nat}(hk:base.length=k){y:List Value×TypeId}{i:Nat}{z:List Value×TypeId}(h:(⟨k+1,y::base⟩:Hp).blk? i=some z):(i<k∧(⟨k,base⟩:Hp).blk? i=some z)∨(i=k∧z=y):=by
 have hi:i<k+1:=Hp.blk_lt h
 by_cases h0:i=k
 ·subst h0
  have:(⟨i+1,y::base⟩:Hp).blk? i=some y:=by
   unfold Hp.blk?
   rw[if_pos(Zp.2(by show i<i+1;omega))]
   show(y::base)[i+1-1-i]? =some y
   rw[show i+1-1-i=0 from by omega]
   rfl
  rw[this] at h
  exact .inr⟨rfl,(Option.some.inj h).symm⟩
 ·refine .inl⟨by omega,?_⟩
  unfold Hp.blk? at h ⊢
  rw[if_pos(Zp.2(by show i<k+1;omega))] at h
  rw[if_pos(Zp.2(by show i<k;omega))]
  have e:k+1-1-i=(k-1-i)+1:=by omega
  have h':(y::base)[k+1-1-i]? =some z:=h
  rw[e,List.getElem?_cons_succ] at h'
  exact h'
theorem RunsW.kept{T:Tab}{c:Code}{x0:Lf}{ex:Ex}{front front':List Value}{n k b:Nat}{h:Hp}{base:List(List Value×TypeId)}{y:List Value×TypeId}(hr:RunsW T c x0 fun e z=>e=ex∧(∃ g,z.1=front++tl n g)∧z.2.1=h)
  (hk:base.length=k)(hf:front'.map(rn(zC k b))=front)(hx:∀ i x,(⟨k,base⟩:Hp).blk? i=some x→h.blk? i=some x∧∀ v∈x.1,still v=true)(hy:h.blk? b=some y)(hb:k≤b)(sy:∀ v∈y.1,still v=true)(hw:∀ v∈front',lt(k+1) v=true):
  RunsW T c x0 fun e z=>e=ex∧(∃ g,z.1=front'++tl n g)∧z.2.1=⟨k+1,y::base⟩:=by
 refine hr.small fun e z he=> .inr ?_
 obtain⟨rfl,⟨g,h1⟩,h2⟩:=he
 obtain⟨t,h',s⟩:=z
 simp only at h1 h2
 subst h1 h2
 refine⟨front,front',tl n g,h',⟨k+1,y::base⟩,s,zC k b,rfl,hf,by simp [hk],Nat.succ_pos _,fun i z hz=> ?_,fun i j u v hi hj _ _ hij=> ?_,hw,fun g'=>⟨rfl,⟨g',by rw[Zgt]⟩,rfl⟩⟩
 ·rcases Zj4 hk hz with⟨hi,hz'⟩ | ⟨rfl,rfl⟩
  ·obtain⟨q1,q2⟩:=hx i z hz'
   exact⟨q2,z,[],by unfold zC;rw[if_pos(Zp.2 hi)];exact q1,rfl,by simp⟩
  ·exact⟨sy,z,[],by unfold zC;rw[if_neg(by rw[Zp];omega)];exact hy,rfl,by simp⟩
 ·unfold zC at hij
  rcases Zj4 hk hi with⟨h1,_⟩ | ⟨rfl,_⟩<;>rcases Zj4 hk hj with⟨h2,_⟩ | ⟨rfl,_⟩
  ·rw[if_pos(Zp.2 h1),if_pos(Zp.2 h2)] at hij;exact hij
  ·rw[if_pos(Zp.2 h1),if_neg(by rw[Zp];omega)] at hij;omega
  ·rw[if_pos(Zp.2 h2),if_neg(by rw[Zp];omega)] at hij;omega
  ·rfl
theorem ZD{T:Tab}{f:Nat}{F:Func}{c:Code}(hF:T.P.funcs[f]? =some F)(hc:F.body=some c){h0:Hp}(hr:h0.rows){vals:List Value}(hvals:∀ v∈vals,lt h0.n v=true){v:Value}(hv:lt 0 v=true)
  (hrun:RunsW T c(vals++List.replicate(F.ntmps-vals.length) undef,h0,[]) fun e y=>(e=none∨e=some none)∧ZZ T.P F y.1 y.2.1=some v)
  {m:Mp}{B:Nat}{h:Hp}{w:World}(E:Emb m B h w){s:Nat→Nat}(hf:h0.fits s h):
  Calls T.P f((vals.map(rn s)).map(mv m)).toArray w fun e w'=>∃ m',e= .returned(mv m' v)∧Came m B h w v h m' w':=by
 have E0:=E.small hr hf
 have ev:(vals.map(rn s)).map(mv m)=vals.map(mv fun i=>m(s i)):=by
  rw[List.map_map]
  exact List.map_congr_left fun y _=>Zdx m s y
 rw[ev]
 refine calls_of_wp hF hc ?_
 have R:Rel(fun i=>m(s i)) w.heap.size(vals++List.replicate(F.ntmps-vals.length) undef,h0,[]){tmps:=(vals.map(mv fun i=>m(s i))).toArray++Array.replicate(F.ntmps-(vals.map(mv fun i=>m(s i))).toArray.size) undef,defers:=[]} w:=by
  refine⟨?_,rfl,E0,?_⟩
  ·simp [zo]
  ·intro y hy
   rcases List.mem_append.1 hy with hy | hy
   ·exact hvals y hy
   ·rw[List.eq_of_mem_replicate hy];simp [undef,lt]
 refine hrun _ _ _ w R _ fun e y he m1 a' w' k2 k3=> ?_
 obtain⟨hex,hres⟩:=he
 obtain⟨r1,r2⟩:=Zae k2.emb k2.wf hres
 rw[← k2.tmps,ZE hv] at r1
 have td:Zad w w':=⟨k3,fun k h1 h2=>k2.emb.ice k h1 h2⟩
 obtain⟨E',hb⟩:=zf E td
 have post:a'.defers=[]∧∃ v',(results F a'.tmps).run T.P w'= .ok v' w'∧∃ m',Ending.returned v'= .returned(mv m' v)∧Came m B h w v h m' w':=
  ⟨k2.dfr,_,r1,m,by rw[ZE hv],⟨Agree.refl _ _,E',hb,Nat.le_refl _,zT(Nat.zero_le _) hv⟩⟩
 rcases hex with rfl | rfl<;>exact post
end Go.KRun
