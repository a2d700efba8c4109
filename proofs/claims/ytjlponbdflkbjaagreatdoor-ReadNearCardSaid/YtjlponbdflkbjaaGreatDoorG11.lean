/-
  Con3, RnA, NumRn
-/
import Derived.Test.YtjlponbdflkbjaaGreatDoorG09
import Derived.Laws.MathBits
import Derived.Test.YtjlponbdflkbjaaGreatDoorG06
namespace Go.Proofs.YtjlponbdflkbjaaGreatDoor
open Go.KRun Go.Wd
def ZaD:List UInt8:=(List.range 256).map fun i=>UInt8.ofNat(bitLen i)
def Zee(z:Int):Int:=((ZaD.getD(IntKind.u8.wrap z).toNat 0).toNat:Int)
def lt8(z:Int):Bool×Bool:=(decide(0≤IntKind.u8.wrap z∧(IntKind.u8.wrap z).toNat<ZaD.length),true)
def sh(z:Int)(k:Nat):Int:=z.fdiv(2^k)
def ge(z k:Int)(d:Bool):Bool×Bool:=(decide(z≥k),d)
def ZfA(m z:Int):Value:= .int .i64(IntKind.i64.wrap(m+IntKind.i64.wrap(Zee z)))
def nz:Bool×Bool:=(false,false)
theorem Zvm(u:Int):Z7(Zn(Zi Tryz.prog Zf Zo true) 3000 124 [.int .u64 u] [tst false,tst false,tst false])(ZfA 0 u) [lt8 u,ge u 256 false,ge u 65536 false,ge u 4294967296 false]:=⟨by kernel_rfl,by kernel_rfl,by kernel_rfl,by kernel_rfl⟩
theorem Zvn(u:Int):Z7(Zn(Zi Tryz.prog Zf Zo true) 3000 124 [.int .u64 u] [tst false,tst false,tst true])(ZfA 8(sh u 8)) [lt8(sh u 8),nz,ge u 256 true,ge u 65536 false,ge u 4294967296 false]:=⟨by kernel_rfl,by kernel_rfl,by kernel_rfl,by kernel_rfl⟩
theorem Zvo(u:Int):Z7(Zn(Zi Tryz.prog Zf Zo true) 3000 124 [.int .u64 u] [tst false,tst true,tst false])(ZfA 16(sh u 16)) [lt8(sh u 16),ge(sh u 16) 256 false,nz,ge u 65536 true,ge u 4294967296 false]:=⟨by kernel_rfl,by kernel_rfl,by kernel_rfl,by kernel_rfl⟩
theorem Zvp(u:Int):Z7(Zn(Zi Tryz.prog Zf Zo true) 3000 124 [.int .u64 u] [tst false,tst true,tst true])(ZfA 24(sh(sh u 16) 8)) [lt8(sh(sh u 16) 8),nz,ge(sh u 16) 256 true,nz,ge u 65536 true,ge u 4294967296 false]:=⟨by kernel_rfl,by kernel_rfl,by kernel_rfl,by kernel_rfl⟩
theorem Zvq(u:Int):Z7(Zn(Zi Tryz.prog Zf Zo true) 3000 124 [.int .u64 u] [tst true,tst false,tst false])(ZfA 32(sh u 32)) [lt8(sh u 32),ge(sh u 32) 256 false,ge(sh u 32) 65536 false,nz,ge u 4294967296 true]:=⟨by kernel_rfl,by kernel_rfl,by kernel_rfl,by kernel_rfl⟩
theorem Zvr(u:Int):Z7(Zn(Zi Tryz.prog Zf Zo true) 3000 124 [.int .u64 u] [tst true,tst false,tst true])(ZfA 40(sh(sh u 32) 8)) [lt8(sh(sh u 32) 8),nz,ge(sh u 32) 256 true,ge(sh u 32) 65536 false,nz,ge u 4294967296 true]:=⟨by kernel_rfl,by kernel_rfl,by kernel_rfl,by kernel_rfl⟩
theorem Zvs(u:Int):Z7(Zn(Zi Tryz.prog Zf Zo true) 3000 124 [.int .u64 u] [tst true,tst true,tst false])(ZfA 48(sh(sh u 32) 16)) [lt8(sh(sh u 32) 16),ge(sh(sh u 32) 16) 256 false,nz,ge(sh u 32) 65536 true,nz,ge u 4294967296 true]:=⟨by kernel_rfl,by kernel_rfl,by kernel_rfl,by kernel_rfl⟩
theorem Zvt(u:Int):Z7(Zn(Zi Tryz.prog Zf Zo true) 3000 124 [.int .u64 u] [tst true,tst true,tst true])(ZfA 56(sh(sh(sh u 32) 16) 8)) [lt8(sh(sh(sh u 32) 16) 8),nz,ge(sh(sh u 32) 16) 256 true,nz,ge(sh u 32) 65536 true,nz,ge u 4294967296 true]:=⟨by kernel_rfl,by kernel_rfl,by kernel_rfl,by kernel_rfl⟩
theorem Zde:ZaD.length=256:=by unfold ZaD;rw[List.length_map,List.length_range]
theorem Zdf(b:Nat)(h:b<256):(ZaD.getD b 0).toNat=bitLen b:=by
 have h1:ZaD.getD b 0=UInt8.ofNat(bitLen b):=by
  unfold ZaD
  rw[List.getD,List.getElem?_map,List.getElem?_range h]
  rfl
 have h2:=bitLen_le8 b h
 rw[h1,UInt8.toNat_ofNat']
 omega
theorem Zhw{z:Int}(h0:0≤z)(h1:z<256):IntKind.u8.wrap z=z:=by
 simp [IntKind.wrap,IntKind.bits,IntKind.signed];omega
theorem zX{m:Int}{Z:Nat}(hm:0≤m)(hm':m≤56)(h1:Z<256):ZfA m(Z:Int)= .int .i64(m+bitLen Z)∧(lt8(Z:Int)).1=(lt8(Z:Int)).2:=by
 have hb:=bitLen_le8 Z h1
 have e:=Zhw(z:=(Z:Int))(by omega)(by omega)
 refine⟨?_,?_⟩
 ·unfold ZfA Zee
  rw[e,Int.toNat_natCast,Zdf Z h1,ZbF(n:=((bitLen Z:Nat):Int))(by omega)(by omega),ZbF(by omega)(by omega)]
 ·unfold lt8
  rw[e,Int.toNat_natCast]
  rw[Zde]
  exact decide_eq_true(And.intro(by omega) h1)
theorem Za5(Z k:Nat):sh(Z:Int) k=((Z/2^k:Nat):Int):=by
 unfold sh
 rw[Int.fdiv_eq_ediv_of_nonneg _(Int.le_of_lt(Int.pow_pos(by omega)))]
 simp
theorem Zkz{z k:Int}(h:k≤z):(ge z k true).1=(ge z k true).2:=decide_eq_true h
theorem Zk0{z k:Int}(h:z<k):(ge z k false).1=(ge z k false).2:=decide_eq_false(by omega)
theorem Zbc:nz.1=nz.2:=rfl
theorem ZaE(x b:Nat)(h:2^b≤x):bitLen x=b+bitLen(x/2^b):=bitLen_shift x b(by
 have:0<x/2^b:=Nat.div_pos h(Nat.two_pow_pos b)
 omega)
def Zms(u:Int):Value:= .int .i64(bitLen u.toNat:Nat)
set_option maxRecDepth 100000 in
theorem Zhx(u:Int)(h0:0≤u)(h1:u<18446744073709551616)(w:World):Calls Tryz.prog 124 #[.int .u64 u] w fun e w'=>e= .returned(Zms u)∧Zad w w':=by
 obtain⟨U,rfl⟩:=Int.eq_ofNat_of_zero_le h0
 unfold Zms
 rw[Int.toNat_natCast]
 have p8:(2:Nat)^8=256:=rfl
 have p16:(2:Nat)^16=65536:=rfl
 have p32:(2:Nat)^32=4294967296:=rfl
 have step:∀ {v:Value}{m:Int}{Z:Nat}{s:List Dec}{cs:Log},Z7(Zn(Zi Tryz.prog Zf Zo true) 3000 124 [.int .u64(U:Int)] s) v cs→Z4 cs→v= .int .i64(bitLen U:Nat)→Calls Tryz.prog 124 #[.int .u64(U:Int)] w fun e w'=>e= .returned(.int .i64(bitLen U:Nat))∧Zad w w':=
  fun{v m Z s cs} hf hc hv=>by subst hv;exact Zc(Zk Zd) hf hc(by rfl)(by rfl) w
 by_cases a:U<4294967296
 ·by_cases b:U<65536
  ·by_cases c:U<256
   ·obtain⟨e1,e2⟩:=zX(m:=0)(by omega)(by omega) c
    exact step(m:=0)(Z:=0)(Zvm U)(ZN e2(ZN(Zk0(by omega))(ZN(Zk0(by omega))(Ze6(Zk0(by omega))))))(by rw[e1];congr 1;omega)
   ·have l:=ZaE U 8(by omega)
    obtain⟨e1,e2⟩:=zX(m:=8)(Z:=U/2^8)(by omega)(by omega)(by omega)
    rw[← Za5] at e1 e2
    exact step(m:=0)(Z:=0)(Zvn U)(ZN e2(ZN Zbc(ZN(Zkz(by omega))(ZN(Zk0(by omega))(Ze6(Zk0(by omega)))))))(by rw[e1];congr 1;omega)
  ·have l:=ZaE U 16(by omega)
   by_cases c:U/2^16<256
   ·obtain⟨e1,e2⟩:=zX(m:=16)(Z:=U/2^16)(by omega)(by omega) c
    rw[← Za5] at e1 e2
    exact step(m:=0)(Z:=0)(Zvo U)(ZN e2(ZN(Zk0(by rw[Za5];omega))(ZN Zbc(ZN(Zkz(by omega))(Ze6(Zk0(by omega)))))))(by rw[e1];congr 1;omega)
   ·have l2:=ZaE(U/2^16) 8(by omega)
    obtain⟨e1,e2⟩:=zX(m:=24)(Z:=U/2^16/2^8)(by omega)(by omega)(by omega)
    rw[← Za5,← Za5] at e1 e2
    exact step(m:=0)(Z:=0)(Zvp U)(ZN e2(ZN Zbc(ZN(Zkz(by rw[Za5];omega))(ZN Zbc(ZN(Zkz(by omega))(Ze6(Zk0(by omega))))))))(by rw[e1];congr 1;omega)
 ·have l0:=ZaE U 32(by omega)
  have q:U/2^32<4294967296:=by omega
  by_cases b:U/2^32<65536
  ·by_cases c:U/2^32<256
   ·obtain⟨e1,e2⟩:=zX(m:=32)(Z:=U/2^32)(by omega)(by omega) c
    rw[← Za5] at e1 e2
    exact step(m:=0)(Z:=0)(Zvq U)(ZN e2(ZN(Zk0(by rw[Za5];omega))(ZN(Zk0(by rw[Za5];omega))(ZN Zbc(Ze6(Zkz(by omega)))))))(by rw[e1];congr 1;omega)
   ·have l:=ZaE(U/2^32) 8(by omega)
    obtain⟨e1,e2⟩:=zX(m:=40)(Z:=U/2^32/2^8)(by omega)(by omega)(by omega)
    rw[← Za5,← Za5] at e1 e2
    exact step(m:=0)(Z:=0)(Zvr U)(ZN e2(ZN Zbc(ZN(Zkz(by rw[Za5];omega))(ZN(Zk0(by rw[Za5];omega))(ZN Zbc(Ze6(Zkz(by omega))))))))(by rw[e1];congr 1;omega)
  ·have l:=ZaE(U/2^32) 16(by omega)
   by_cases c:U/2^32/2^16<256
   ·obtain⟨e1,e2⟩:=zX(m:=48)(Z:=U/2^32/2^16)(by omega)(by omega) c
    rw[← Za5,← Za5] at e1 e2
    exact step(m:=0)(Z:=0)(Zvs U)(ZN e2(ZN(Zk0(by rw[Za5,Za5];omega))(ZN Zbc(ZN(Zkz(by rw[Za5];omega))(ZN Zbc(Ze6(Zkz(by omega))))))))(by rw[e1];congr 1;omega)
   ·have l2:=ZaE(U/2^32/2^16) 8(by omega)
    obtain⟨e1,e2⟩:=zX(m:=56)(Z:=U/2^32/2^16/2^8)(by omega)(by omega)(by omega)
    rw[← Za5,← Za5,← Za5] at e1 e2
    exact step(m:=0)(Z:=0)(Zvt U)(ZN e2(ZN Zbc(ZN(Zkz(by rw[Za5,Za5];omega))(ZN Zbc(ZN(Zkz(by rw[Za5];omega))(ZN Zbc(Ze6(Zkz(by omega)))))))))(by rw[e1];congr 1;omega)
def gu(k:Int→Value):Ans:=fun vals s=>
 match vals with
 | [.int .u64 u]=>some(k u,s,[(decide(0≤u∧u<18446744073709551616),true)])
 | _=>none
theorem Z5N{f:Nat}{k:Int→Value}(hk:∀ u,0≤u→u<18446744073709551616→∀ w,Calls Tryz.prog f #[.int .u64 u] w fun e w'=>e= .returned(k u)∧Zad w w'):ZT f(gu k):=by
 intro vals s v s' lg h hl w
 unfold gu at h
 split at h
 ·cases h
  have h1:=hl _(List.mem_singleton.2 rfl)
  simp only[decide_eq_true_eq] at h1
  exact hk _ h1.1 h1.2 w
 ·cases h
def Zfa:Con:=alt 124(gu Zms) Zo
theorem ZaS:ConOk Zfa:=ZA Tryz.func124 rfl(Z5N Zhx) Zd
def ne0(a:Int)(d:Bool):Bool×Bool:=(a !=0,d)
def yes:Bool×Bool:=(true,true)
def no:Bool×Bool:=(false,false)
def wd(u:Int):Bool×Bool:=(decide(0≤u∧u<18446744073709551616),true)
def ZyX(m u:Int):Value:= .int .i64(IntKind.i64.wrap(m+(bitLen u.toNat:Nat)))
theorem Z09(x:W4):Z7(Zn(Zi Tryz.prog Zf Zfa true) 3000 82 [vW x] [tst true,tst true])(ZyX 192 x.d) [wd x.d,ne0 x.d true,yes]:=⟨by kernel_rfl,by kernel_rfl,by kernel_rfl,by kernel_rfl⟩
theorem Z0A(x:W4):Z7(Zn(Zi Tryz.prog Zf Zfa true) 3000 82 [vW x] [tst true,tst false,tst true,tst true])(ZyX 128 x.c) [wd x.c,ne0 x.c true,yes,ne0 x.d false,yes]:=⟨by kernel_rfl,by kernel_rfl,by kernel_rfl,by kernel_rfl⟩
theorem Z0B(x:W4):Z7(Zn(Zi Tryz.prog Zf Zfa true) 3000 82 [vW x] [tst true,tst false,tst true,tst false,tst true,tst true])(ZyX 64 x.b) [wd x.b,ne0 x.b true,yes,ne0 x.c false,yes,ne0 x.d false,yes]:=⟨by kernel_rfl,by kernel_rfl,by kernel_rfl,by kernel_rfl⟩
theorem Z0C(x:W4):Z7(Zn(Zi Tryz.prog Zf Zfa true) 3000 82 [vW x] [tst true,tst false,tst true,tst false,tst true,tst false,tst true,tst true])(ZyX 0 x.a) [wd x.a,ne0 x.a true,yes,ne0 x.b false,yes,ne0 x.c false,yes,ne0 x.d false,yes]:=⟨by kernel_rfl,by kernel_rfl,by kernel_rfl,by kernel_rfl⟩
theorem Z0D(x:W4):Z7(Zn(Zi Tryz.prog Zf Zfa true) 3000 82 [vW x] [tst true,tst false,tst true,tst false,tst true,tst false,tst true,tst false,tst false])(.int .i64 0) [no,ne0 x.a false,yes,ne0 x.b false,yes,ne0 x.c false,yes,ne0 x.d false,yes]:=⟨by kernel_rfl,by kernel_rfl,by kernel_rfl,by kernel_rfl⟩
def Z4C(x:W4):Int:=(bitLen x.val.toNat:Nat)
def Zvu(x:W4):Value:= .int .i64(Z4C x)
theorem ZfB{m u:Int}(h0:0≤m)(h1:m≤192)(hu:0≤u∧u<18446744073709551616):ZyX m u= .int .i64(m+(bitLen u.toNat:Nat)):=by
 have:bitLen u.toNat≤64:=by
  unfold bitLen
  split
  ·omega
  ·rename_i h
   have:=(Nat.log2_lt h).2(show u.toNat<2^64 by have:(2:Nat)^64=18446744073709551616:=rfl;omega)
   omega
 unfold ZyX
 rw[ZbF(by omega)(by omega)]
theorem Z4D{a:Int}(h:a≠0):(ne0 a true).1=(ne0 a true).2:=bne_iff_ne.2 h
theorem ZoF{a:Int}(h:a=0):(ne0 a false).1=(ne0 a false).2:=by subst h;rfl
theorem Zqn{u:Int}(h:0≤u∧u<18446744073709551616):(wd u).1=(wd u).2:=decide_eq_true h
theorem ZaR:yes.1=yes.2:=rfl
theorem Z5O:no.1=no.2:=rfl
theorem ZfC{X b U:Nat}(hU:U≠0)(h:X/2^b=U):bitLen X=b+bitLen U:=by
 rw[← h]
 exact bitLen_shift X b(by omega)
set_option maxRecDepth 100000 in
theorem ZjG(x:W4)(hx:x.ok)(w:World):Calls Tryz.prog 82 #[vW x] w fun e w'=>e= .returned(Zvu x)∧Zad w w':=by
 have hx':=hx
 obtain⟨a,b,c,d⟩:=x
 obtain⟨h1,h2,h3,h4⟩:=hx
 unfold Zvu Z4C W4.val
 dsimp only at*
 by_cases e4:d=0
 ·by_cases e3:c=0
  ·by_cases e2:b=0
   ·by_cases e1:a=0
    ·subst e1 e2 e3 e4
     exact Zc(Zk ZaS)(Z0D⟨0,0,0,0⟩)(ZN Z5O(ZN(ZoF rfl)(ZN ZaR(ZN(ZoF rfl)(ZN ZaR(ZN(ZoF rfl)(ZN ZaR(ZN(ZoF rfl)(Ze6 ZaR)))))))))(by rfl)(by rfl) w
    ·have h:=Zc(Zk ZaS)(Z0C⟨a,b,c,d⟩)(ZN(Zqn h1)(ZN(Z4D e1)(ZN ZaR(ZN(ZoF e2)(ZN ZaR(ZN(ZoF e3)(ZN ZaR(ZN(ZoF e4)(Ze6 ZaR)))))))))(by rfl)(by rfl) w
     rw[ZfB(by omega)(by omega) h1] at h
     subst e2 e3 e4
     simp at h ⊢
     exact h
   ·have h:=Zc(Zk ZaS)(Z0B⟨a,b,c,d⟩)(ZN(Zqn h2)(ZN(Z4D e2)(ZN ZaR(ZN(ZoF e3)(ZN ZaR(ZN(ZoF e4)(Ze6 ZaR)))))))(by rfl)(by rfl) w
    rw[ZfB(by omega)(by omega) h2] at h
    have p:(2:Nat)^64=18446744073709551616:=rfl
    have l:=ZfC(X:=(a+18446744073709551616*b+340282366920938463463374607431768211456*c+6277101735386680763835789423207666416102355444464034512896*d).toNat)(b:=64)(U:=b.toNat)(by omega)(by rw[p];omega)
    rw[l]
    simp at h ⊢
    exact h
  ·have h:=Zc(Zk ZaS)(Z0A⟨a,b,c,d⟩)(ZN(Zqn h3)(ZN(Z4D e3)(ZN ZaR(ZN(ZoF e4)(Ze6 ZaR)))))(by rfl)(by rfl) w
   rw[ZfB(by omega)(by omega) h3] at h
   have p:(2:Nat)^128=340282366920938463463374607431768211456:=rfl
   have l:=ZfC(X:=(a+18446744073709551616*b+340282366920938463463374607431768211456*c+6277101735386680763835789423207666416102355444464034512896*d).toNat)(b:=128)(U:=c.toNat)(by omega)(by rw[p];omega)
   rw[l]
   simp at h ⊢
   exact h
 ·have h:=Zc(Zk ZaS)(Z09⟨a,b,c,d⟩)(ZN(Zqn h4)(ZN(Z4D e4)(Ze6 ZaR)))(by rfl)(by rfl) w
  rw[ZfB(by omega)(by omega) h4] at h
  have p:(2:Nat)^192=6277101735386680763835789423207666416102355444464034512896:=rfl
  have l:=ZfC(X:=(a+18446744073709551616*b+340282366920938463463374607431768211456*c+6277101735386680763835789423207666416102355444464034512896*d).toNat)(b:=192)(U:=d.toNat)(by omega)(by rw[p];omega)
  rw[l]
  simp at h ⊢
  exact h
def g1(k:W4→Value):Ans:=fun vals s=>
 match vals with
 | [x]=>
  match w4 x with
  | some a=>some(k a,s,[(decide a.ok,true)])
  | none=>none
 | _=>none
theorem Z5P{f:Nat}{k:W4→Value}(hk:∀ x:W4,x.ok→∀ w,Calls Tryz.prog f #[vW x] w fun e w'=>e= .returned(k x)∧Zad w w'):ZT f(g1 k):=by
 intro vals s v s' lg h hl w
 unfold g1 at h
 split at h
 ·split at h
  ·rename_i a ha
   cases h
   have h1:=hl _(List.mem_singleton.2 rfl)
   simp only[decide_eq_true_eq] at h1
   rw[ZdX ha]
   exact hk a h1 w
  ·cases h
 ·cases h
def Ztg(z:Int):Int:=IntKind.u64.wrap((BitVec.ofInt 64 z &&& BitVec.ofInt 64 1).toNat:Nat)
theorem Zmt{z:Int}(h0:0≤z)(h1:z<18446744073709551616):Ztg z=z % 2:=by
 obtain⟨Z,rfl⟩:=Int.eq_ofNat_of_zero_le h0
 unfold Ztg
 have e1:(BitVec.ofInt 64(Z:Int)).toNat=Z:=by simp;omega
 have e2:(BitVec.ofInt 64 1).toNat=1:=rfl
 rw[BitVec.toNat_and,e1,e2,Nat.and_one_is_mod,ZbU]
 omega
def lb(n k:Int):Log:=[(decide((64:Int)=0),false),(decide(IntKind.i64.wrap(n.tdiv 64)=k),true),(decide(n≥256),false),(decide(n<0),false)]
theorem Zvv(x:W4)(n:Int):Z7(Zn(Zi Tryz.prog Zf Zo true) 3000 86 [vW x,.int .i64 n] [cmp true])(.int .u64 0) [(decide(n<0),true)]:=⟨by kernel_rfl,by kernel_rfl,by kernel_rfl,by kernel_rfl⟩
theorem Zqo(x:W4)(n:Int):Z7(Zn(Zi Tryz.prog Zf Zo true) 3000 86 [vW x,.int .i64 n] [cmp false,cmp true])(.int .u64 0) [(decide(n≥256),true),(decide(n<0),false)]:=⟨by kernel_rfl,by kernel_rfl,by kernel_rfl,by kernel_rfl⟩
theorem Z5Q(x:W4)(n:Int):Z7(Zn(Zi Tryz.prog Zf Zo true) 3000 86 [vW x,.int .i64 n] [cmp false,cmp false,num 0])(.int .u64(Ztg(dn' x.a n)))(lu n::lb n 0):=⟨by kernel_rfl,by kernel_rfl,by kernel_rfl,by kernel_rfl⟩
theorem Z5R(x:W4)(n:Int):Z7(Zn(Zi Tryz.prog Zf Zo true) 3000 86 [vW x,.int .i64 n] [cmp false,cmp false,num 1])(.int .u64(Ztg(dn' x.b n)))(lu n::lb n 1):=⟨by kernel_rfl,by kernel_rfl,by kernel_rfl,by kernel_rfl⟩
theorem Z5S(x:W4)(n:Int):Z7(Zn(Zi Tryz.prog Zf Zo true) 3000 86 [vW x,.int .i64 n] [cmp false,cmp false,num 2])(.int .u64(Ztg(dn' x.c n)))(lu n::lb n 2):=⟨by kernel_rfl,by kernel_rfl,by kernel_rfl,by kernel_rfl⟩
theorem Z5T(x:W4)(n:Int):Z7(Zn(Zi Tryz.prog Zf Zo true) 3000 86 [vW x,.int .i64 n] [cmp false,cmp false,num 3])(.int .u64(Ztg(dn' x.d n)))(lu n::lb n 3):=⟨by kernel_rfl,by kernel_rfl,by kernel_rfl,by kernel_rfl⟩
def Zmu(x:W4)(n:Int):Int:=if n<0 then 0 else if 256≤n then 0 else x.val/2^n.toNat % 2
def Zvw(x:W4)(n:Int):Value:= .int .u64(Zmu x n)
theorem Zqp{n k:Int}(h1:¬ n<0)(h2:¬ 256≤n)(h3:n/64=k):Z4(lb n k):=by
 refine ZN(by rfl)(ZN(decide_eq_true ?_)(ZN(decide_eq_false h2)(Ze6(decide_eq_false h1))))
 rw[Int.tdiv_eq_ediv_of_nonneg(by omega),ZbF(by omega)(by omega)]
 exact h3
theorem Zhy{x:W4}{n:Int}{a b:Int}(hn:0≤n)(ha:0≤a∧a<18446744073709551616)(hb:0≤b∧b<18446744073709551616)(h:(W4.of(x.val/2^n.toNat)).a=orr(dn' a n)(up' b n)):
  Ztg(dn' a n)=x.val/2^n.toNat % 2:=by
 obtain⟨l,o,d,s,m,l0,l1,e⟩:=zW hn ha hb
 have ev:=Zpn hn hb
 rw[Zmt d.1 d.2]
 rw[o] at h
 unfold W4.of at h
 dsimp only at h
 omega
theorem Zqq{x:W4}{n:Int}{a:Int}(hn:0≤n)(ha:0≤a∧a<18446744073709551616)(h:(W4.of(x.val/2^n.toNat)).a=dn' a n):Ztg(dn' a n)=x.val/2^n.toNat % 2:=by
 obtain⟨l,o,d,s,m,l0,l1,e⟩:=zW hn ha ha
 rw[Zmt d.1 d.2]
 unfold W4.of at h
 dsimp only at h
 omega
set_option maxRecDepth 100000 in
theorem Zmv(x:W4)(n:Int)(hx:x.ok)(_h0: -9223372036854775808≤n)(_h9:n≤9223372036854775807)(w:World):Calls Tryz.prog 86 #[vW x,.int .i64 n] w fun e w'=>e= .returned(Zvw x n)∧Zad w w':=by
 unfold Zvw Zmu
 by_cases h1:n<0
 ·rw[if_pos h1]
  exact Zc(Zk Zd)(Zvv x n)(Ze6(decide_eq_true h1))(by rfl)(by rfl) w
 ·rw[if_neg h1]
  by_cases h2:256≤n
  ·rw[if_pos h2]
   exact Zc(Zk Zd)(Zqo x n)(ZN(decide_eq_true h2)(Ze6(decide_eq_false h1)))(by rfl)(by rfl) w
  ·rw[if_neg h2]
   have hn:0≤n:=by omega
   have u:=ZuR hn
   obtain⟨k1,k2,k3,k4⟩:=hx
   have hj:n/64=0∨n/64=1∨n/64=2∨n/64=3:=by omega
   rcases hj with hj | hj | hj | hj
   ·obtain⟨e1,_⟩:=Zlo(x:=x)⟨k1,k2,k3,k4⟩ hn hj
    rw[← Zhy hn k1 k2(by rw[← e1];rfl)]
    exact Zc(Zk Zd)(Z5Q x n)(ZN u(Zqp h1 h2 hj))(by rfl)(by rfl) w
   ·obtain⟨e1,_⟩:=Zlp(x:=x)⟨k1,k2,k3,k4⟩ hn hj
    rw[← Zhy hn k2 k3(by rw[← e1];rfl)]
    exact Zc(Zk Zd)(Z5R x n)(ZN u(Zqp h1 h2 hj))(by rfl)(by rfl) w
   ·obtain⟨e1,_⟩:=Zlq(x:=x)⟨k1,k2,k3,k4⟩ hn hj
    rw[← Zhy hn k3 k4(by rw[← e1];rfl)]
    exact Zc(Zk Zd)(Z5S x n)(ZN u(Zqp h1 h2 hj))(by rfl)(by rfl) w
   ·obtain⟨e1,_⟩:=Zlr(x:=x)⟨k1,k2,k3,k4⟩ hn hj
    rw[← Zqq hn k4(by rw[← e1];rfl)]
    exact Zc(Zk Zd)(Z5T x n)(ZN u(Zqp h1 h2 hj))(by rfl)(by rfl) w
end Go.Proofs.YtjlponbdflkbjaaGreatDoor
namespace Go.Proofs.YtjlponbdflkbjaaGreatDoor
open Go.KRun Go.Wd Go.Pt Go.Rn
set_option maxRecDepth 100000
theorem u0(c m:Int)(o n:Bool):Z7(Zn(Zi Tryz.prog Zf Zo true) 300 85 [.int .i64 c,.bool o,.bool n,.int .i64 m] [cmp true])(Value.bool false) [(c==0,true)]:=⟨by kernel_rfl,by kernel_rfl,by kernel_rfl,by kernel_rfl⟩
theorem u2(c m:Int)(o n:Bool):Z7(Zn(Zi Tryz.prog Zf Zo true) 300 85 [.int .i64 c,.bool o,.bool n,.int .i64 m] [cmp false,cmp true])(Value.bool false) [(m==2,true),(c==0,false)]:=⟨by kernel_rfl,by kernel_rfl,by kernel_rfl,by kernel_rfl⟩
theorem u3(c m:Int)(o n:Bool):Z7(Zn(Zi Tryz.prog Zf Zo true) 300 85 [.int .i64 c,.bool o,.bool n,.int .i64 m] [cmp false,cmp false,cmp true])(Value.bool !n) [(m==3,true),(m==2,false),(c==0,false)]:=⟨by kernel_rfl,by kernel_rfl,by kernel_rfl,by kernel_rfl⟩
theorem u4(c m:Int)(o n:Bool):Z7(Zn(Zi Tryz.prog Zf Zo true) 300 85 [.int .i64 c,.bool o,.bool n,.int .i64 m] [cmp false,cmp false,cmp false,cmp true])(Value.bool n) [(m==4,true),(m==3,false),(m==2,false),(c==0,false)]:=⟨by kernel_rfl,by kernel_rfl,by kernel_rfl,by kernel_rfl⟩
theorem u1(c m:Int)(o n:Bool):Z7(Zn(Zi Tryz.prog Zf Zo true) 300 85 [.int .i64 c,.bool o,.bool n,.int .i64 m] [cmp false,cmp false,cmp false,cmp false,cmp true])(Value.bool(decide(c≥2))) [(m==1,true),(m==4,false),(m==3,false),(m==2,false),(c==0,false)]:=⟨by kernel_rfl,by kernel_rfl,by kernel_rfl,by kernel_rfl⟩
theorem ua(c m:Int)(o n:Bool):Z7(Zn(Zi Tryz.prog Zf Zo true) 300 85 [.int .i64 c,.bool o,.bool n,.int .i64 m] [cmp false,cmp false,cmp false,cmp false,cmp false,cmp true])(Value.bool true) [(decide(c>2),true),(m==1,false),(m==4,false),(m==3,false),(m==2,false),(c==0,false)]:=⟨by kernel_rfl,by kernel_rfl,by kernel_rfl,by kernel_rfl⟩
theorem ub(c m:Int)(o n:Bool):Z7(Zn(Zi Tryz.prog Zf Zo true) 300 85 [.int .i64 c,.bool o,.bool n,.int .i64 m] [cmp false,cmp false,cmp false,cmp false,cmp false,cmp false,cmp true])(Value.bool o) [(c==2,true),(decide(c>2),false),(m==1,false),(m==4,false),(m==3,false),(m==2,false),(c==0,false)]:=⟨by kernel_rfl,by kernel_rfl,by kernel_rfl,by kernel_rfl⟩
theorem uc(c m:Int)(o n:Bool):Z7(Zn(Zi Tryz.prog Zf Zo true) 300 85 [.int .i64 c,.bool o,.bool n,.int .i64 m] [cmp false,cmp false,cmp false,cmp false,cmp false,cmp false,cmp false])(Value.bool false) [(c==2,false),(decide(c>2),false),(m==1,false),(m==4,false),(m==3,false),(m==2,false),(c==0,false)]:=⟨by kernel_rfl,by kernel_rfl,by kernel_rfl,by kernel_rfl⟩
def gUp:Ans:=fun vals s=>
 match vals with
 | [.int .i64 c,.bool o,.bool n,.int .i64 m]=>some(.bool(upR m n o c),s,[])
 | _=>none
theorem Zqr(c m:Int)(o n:Bool)(w:World):Calls Tryz.prog 85 #[.int .i64 c,.bool o,.bool n,.int .i64 m] w fun e w'=>e= .returned(.bool(upR m n o c))∧Zad w w':=by
 unfold upR
 by_cases h0:c=0
 ·rw[if_pos h0]
  exact Zc(Zk Zd)(u0 c m o n)(by simp [ZcQ,ZoD,h0])(by rfl)(by rfl) w
 ·rw[if_neg h0]
  by_cases h2:m=2
  ·rw[if_pos h2]
   exact Zc(Zk Zd)(u2 c m o n)(by simp [ZcQ,ZoD,h0,h2])(by rfl)(by rfl) w
  ·rw[if_neg h2]
   by_cases h3:m=3
   ·rw[if_pos h3]
    exact Zc(Zk Zd)(u3 c m o n)(by simp [ZcQ,ZoD,h0,h3])(by rfl)(by rfl) w
   ·rw[if_neg h3]
    by_cases h4:m=4
    ·rw[if_pos h4]
     exact Zc(Zk Zd)(u4 c m o n)(by simp [ZcQ,ZoD,h0,h4])(by rfl)(by rfl) w
    ·rw[if_neg h4]
     by_cases h1:m=1
     ·rw[if_pos h1]
      exact Zc(Zk Zd)(u1 c m o n)(by simp [ZcQ,ZoD,h0,h1])(by rfl)(by rfl) w
     ·rw[if_neg h1]
      by_cases ha:2<c
      ·have e:(decide(2<c) || (decide(c=2) && o))=true:=by simp [ha]
       rw[e]
       exact Zc(Zk Zd)(ua c m o n)(by simp [ZcQ,ZoD,h0,h1,h2,h3,h4,ha])(by rfl)(by rfl) w
      ·by_cases hb:c=2
       ·have e:(decide(2<c) || (decide(c=2) && o))=o:=by simp [hb]
        rw[e]
        exact Zc(Zk Zd)(ub c m o n)(by simp [ZcQ,ZoD,h1,h2,h3,h4,hb])(by rfl)(by rfl) w
       ·have e:(decide(2<c) || (decide(c=2) && o))=false:=by simp [ha,hb]
        rw[e]
        exact Zc(Zk Zd)(uc c m o n)(by simp [ZcQ,ZoD,h0,h1,h2,h3,h4,hb];omega)(by rfl)(by rfl) w
theorem Z0E:ZT 85 gUp:=by
 intro vals s v s' lg h hl w
 unfold gUp at h
 split at h
 ·cases h;exact Zqr _ _ _ _ w
 ·cases h
def Z5U:Con:=alt 74(g1n(Zda ZlS))(alt 125(g1n Z5C)(alt 86(g1n(Zda Zvw))(alt 82(g1 Zvu)(alt 73(g2(Zi1 ZuP)) Zo))))
theorem Zmw:ConOk Z5U:=ZA Tryz.func74 rfl(ZbW ZdY)(ZA Tryz.func125 rfl ZuT(ZA Tryz.func86 rfl(ZbW Zmv)(ZA Tryz.func82 rfl(Z5P ZjG)(ZA Tryz.func73 rfl(Zg0 Zg1) Zd))))
theorem ZfD{x:W4}(hx:x.ok){n:Int}(hn:0≤n):Ze7 x n=ofN(x.nat*2^n.toNat):=by
 unfold Ze7
 by_cases h1:n<1
 ·have:n=0:=by omega
  subst this
  rw[if_pos h1]
  simp [Zd7 hx]
 ·rw[if_neg h1]
  by_cases h2:256≤n
  ·rw[if_pos h2,Zuk(by omega)]
  ·rw[if_neg h2,W4.nat_val hx,cast_pow]
   unfold ofN
   congr 1
theorem ZiC{x:W4}(hx:x.ok){n:Int}(hn:0≤n):Zj7 x n=ofN(x.nat/2^n.toNat):=by
 unfold Zj7
 by_cases h1:n<1
 ·have:n=0:=by omega
  subst this
  rw[if_pos h1]
  simp [Zd7 hx]
 ·rw[if_neg h1]
  by_cases h2:256≤n
  ·rw[if_pos h2,Zgr(W4.nat_lt hx)(by omega),Zcy]
  ·rw[if_neg h2,W4.nat_val hx,cast_pow]
   unfold ofN
   congr 1
theorem Zqs{x:W4}(hx:x.ok){n:Int}(hn:0≤n):ZgU x n=decide(x.nat % 2^n.toNat≠0):=by
 unfold ZgU
 by_cases h1:n<1
 ·have:n=0:=by omega
  subst this
  rw[if_pos h1]
  simp [Nat.mod_one]
 ·rw[if_neg h1]
  by_cases h2:256≤n
  ·rw[if_pos h2,Zls(W4.nat_lt hx)(by omega),W4.nat_val hx]
   congr 1
   simp
  ·rw[if_neg h2,W4.nat_val hx,cast_pow]
   congr 1
   have:((x.nat:Int) % ((2^n.toNat:Nat):Int))=((x.nat % 2^n.toNat:Nat):Int):=rfl
   rw[this]
   simp only[ne_eq,eq_iff_iff]
   omega
theorem ZfE{x:W4}(hx:x.ok){n:Int}(hn:0≤n):Zmu x n=((x.nat/2^n.toNat % 2:Nat):Int):=by
 unfold Zmu
 rw[if_neg(by omega)]
 by_cases h2:256≤n
 ·rw[if_pos h2,Zgr(W4.nat_lt hx)(by omega)]
  rfl
 ·rw[if_neg h2,W4.nat_val hx,cast_pow]
  rfl
def hv(x:W4)(b:Bool):W4:=match b with | true=>⟨bOr(Ze7 x 1).a 1,(Ze7 x 1).b,(Ze7 x 1).c,(Ze7 x 1).d⟩ | false=>Ze7 x 1
def Z9v(x:W4):Bool×Bool:=(decide(x.ok∧(-9223372036854775808:Int)≤1∧(1:Int)≤9223372036854775807),true)
theorem Zvx(x:W4)(b:Bool):Z7(Zn(Zi Tryz.prog Zf Z5U true) 300 83 [vW x,.bool b] [])(vW(hv x b)) [Z9v x]:=by
 cases b<;>exact⟨by kernel_rfl,by kernel_rfl,by kernel_rfl,by kernel_rfl⟩
theorem Zqt(x y:Int):bOr x y=bOr y x:=by unfold bOr;rw[BitVec.or_comm]
theorem Z5V{x:W4}(hx:x.ok)(b:Bool):hv x b=ofN(tw x b):=by
 have e1:=ZfD hx(n:=1)(by omega)
 have e2:x.nat*2^(1:Int).toNat=2*x.nat:=by simp [Nat.mul_comm]
 rw[e2] at e1
 cases b
 ·unfold hv tw
  simp only[Nat.add_zero]
  exact e1
 ·unfold hv tw
  simp only
  rw[e1]
  have e3:bOr(ofN(2*x.nat)).a 1=(ofN(2*x.nat)).a+1:=by
   have hb:0≤(ofN(2*x.nat)).a∧(ofN(2*x.nat)).a<18446744073709551616:=(zJ _).1
   have hev:(ofN(2*x.nat)).a % 2=0:=by unfold ofN W4.of;dsimp only;omega
   rw[Zqt,or_low 1(z:=(ofN(2*x.nat)).a/2)(by omega)(by omega)(by omega)(by decide)(by omega)]
  rw[e3]
  unfold ofN W4.of
  refine W4.ext' ?_ ?_ ?_ ?_<;>dsimp only<;>omega
def gHv:Ans:=fun vals s=>
 match vals with
 | [x,.bool b]=>
  match w4 x with
  | some a=>some(vW(ofN(tw a b)),s,[(decide a.ok,true)])
  | none=>none
 | _=>none
theorem Z0F:ZT 83 gHv:=by
 intro vals s v s' lg h hl w
 unfold gHv at h
 split at h
 ·split at h
  ·rename_i a ha
   cases h
   have h1:a.ok:=of_decide_eq_true(hl _(List.mem_singleton.2 rfl))
   rw[ZdX ha,← Z5V h1]
   exact Zc(Zk Zmw)(Zvx a _)(Z3(decide_eq_true⟨h1,by omega,by omega⟩))(by rfl)(by rfl) w
  ·cases h
 ·cases h
def Zth:Con:=alt 83 gHv Z5U
theorem Zbt:ConOk Zth:=ZA Tryz.func83 rfl Z0F Zmw
def vN(n:Bool)(e:Int)(x:W4)(b:Bool):Value:= .agg #[.bool n,.int .i64 e,.int .u64 x.a,.int .u64 x.b,.int .u64 x.c,.int .u64 x.d,.bool b]
def n7:Value→Option(Bool×Int×W4×Bool)
 | .agg cs=>
  match cs.toList with
  | [.bool n,.int .i64 e,.int .u64 a,.int .u64 b,.int .u64 c,.int .u64 d,.bool m]=>some(n,e,⟨a,b,c,d⟩,m)
  | _=>none
 | _=>none
theorem Zcl{v:Value}{n m:Bool}{e:Int}{x:W4}(h:n7 v=some(n,e,x,m)):v=vN n e x m:=by
 unfold n7 at h
 split at h
 ·rename_i cs
  split at h
  ·rename_i a b c d hc
   cases h
   obtain⟨l⟩:=cs
   simp only at hc
   subst hc
   rfl
  ·cases h
 ·cases h
def lok(x:W4)(n:Int):Bool×Bool:=(decide(x.ok∧ -9223372036854775808≤n∧n≤9223372036854775807),true)
def dnI(ex e:Int):Int:=IntKind.i64.wrap(e-ex)
def dn1(ex e:Int):Int:=IntKind.i64.wrap(IntKind.i64.wrap(e-ex)-1)
def ctV(x:W4)(ex e c:Int):Value:= .tuple #[vW(Zj7 x(dnI ex e)),.int .i64 c]
theorem ct0(n:Bool)(x:W4)(ex e:Int):Z7(Zn(Zi Tryz.prog Zf Zth true) 300 84 [vN n ex x false,.int .i64 e] [cmp false])(ctV x ex e 0) [lok x(dnI ex e),(ZgU x(dnI ex e),false)]:=⟨by kernel_rfl,by kernel_rfl,by kernel_rfl,by kernel_rfl⟩
theorem ct1(n:Bool)(x:W4)(ex e:Int):Z7(Zn(Zi Tryz.prog Zf Zth true) 300 84 [vN n ex x true,.int .i64 e] [cmp false,cmp true])(ctV x ex e 2) [(dnI ex e==0,true),lok x(dnI ex e),(ZgU x(dnI ex e),false)]:=⟨by kernel_rfl,by kernel_rfl,by kernel_rfl,by kernel_rfl⟩
theorem ct2(n:Bool)(x:W4)(ex e:Int)(d:Bool):Z7(Zn(Zi Tryz.prog Zf Zth true) 300 84 [vN n ex x true,.int .i64 e] [cmp false,cmp false,cmp d])(ctV x ex e(match d with | true=>1 | false=>3)) [(Zmu x(dn1 ex e)==0,d),lok x(dn1 ex e),(dnI ex e==0,false),lok x(dnI ex e),(ZgU x(dnI ex e),false)]:=by
 cases d<;>exact⟨by kernel_rfl,by kernel_rfl,by kernel_rfl,by kernel_rfl⟩
theorem ct4(n b:Bool)(x:W4)(ex e:Int):Z7(Zn(Zi Tryz.prog Zf Zth true) 300 84 [vN n ex x b,.int .i64 e] [cmp true,cmp false,cmp true])(ctV x ex e 1) [(Zmu x(dn1 ex e)==0,true),lok x(dn1 ex e),(dnI ex e==0,false),lok x(dnI ex e),(ZgU x(dnI ex e),true)]:=⟨by kernel_rfl,by kernel_rfl,by kernel_rfl,by kernel_rfl⟩
theorem ct5(n:Bool)(x:W4)(ex e:Int):Z7(Zn(Zi Tryz.prog Zf Zth true) 300 84 [vN n ex x true,.int .i64 e] [cmp true,cmp false,cmp false])(ctV x ex e 3) [(Zmu x(dn1 ex e)==0,false),lok x(dn1 ex e),(dnI ex e==0,false),lok x(dnI ex e),(ZgU x(dnI ex e),true)]:=⟨by kernel_rfl,by kernel_rfl,by kernel_rfl,by kernel_rfl⟩
def bkW(x:W4)(ex e:Int):W4:=Ze7(ofN(tw(Zj7 x(dnI ex e)) true))(dn1 ex e)
theorem ct6(n:Bool)(x:W4)(ex e:Int)(d:Bool):Z7(Zn(Zi Tryz.prog Zf Zth true) 300 84 [vN n ex x false,.int .i64 e] [cmp true,cmp false,cmp false,sam d])(ctV x ex e(match d with | true=>3 | false=>2)) [(!(eqW x(bkW x ex e)),d),lok(ofN(tw(Zj7 x(dnI ex e)) true))(dn1 ex e),(decide(Zj7 x(dnI ex e)).ok,true),(Zmu x(dn1 ex e)==0,false),lok x(dn1 ex e),(dnI ex e==0,false),lok x(dnI ex e),(ZgU x(dnI ex e),true)]:=by
 cases d<;>exact⟨by kernel_rfl,by kernel_rfl,by kernel_rfl,by kernel_rfl⟩
end Go.Proofs.YtjlponbdflkbjaaGreatDoor
namespace Go.Rd
open Go.Wd
def orW(y w:Int)(s:Nat):Int:=IntKind.u64.wrap(((BitVec.ofInt 64 y ||| BitVec.ofInt 64(IntKind.u64.wrap(IntKind.u64.wrap w*2^s))).toNat:Nat):Int)
theorem Zhz{z:Int}(h0:0≤z)(h1:z<18446744073709551616):IntKind.u64.wrap z=z:=by
 simp [IntKind.wrap,IntKind.bits,IntKind.signed]
 omega
theorem ZbK{y w s:Nat}(hs:s=0∨s=32)(hy:y<2^s)(hw:w<4294967296):orW(y:Int)(w:Int) s=((y+w*2^s:Nat):Int):=by
 have e32:(2:Nat)^32=4294967296:=rfl
 have e0:(2:Nat)^0=1:=rfl
 have hb:y+w*2^s<18446744073709551616:=by rcases hs with rfl | rfl<;>omega
 have hy2:y<18446744073709551616:=by omega
 have e1:((w:Nat):Int)*2^s=((w*2^s:Nat):Int):=by rw[cast_pow,Int.natCast_mul]
 have h64:((2:Nat)^64:Nat)=18446744073709551616:=rfl
 have b1:∀ z:Nat,z<18446744073709551616→(BitVec.ofInt 64(z:Int)).toNat=z:=fun z hz=>by
  rw[BitVec.toNat_ofInt]
  omega
 unfold orW
 rw[Zhz(z:=(w:Int))(by omega)(by omega),e1,Zhz(z:=((w*2^s:Nat):Int))(by omega)(by omega),BitVec.toNat_or,b1 y hy2,b1 _(by omega)]
 have h:=Nat.shiftLeft_add_eq_or_of_lt(i:=s) hy w
 rw[Nat.shiftLeft_eq,Nat.or_comm] at h
 rw[← h,Zhz(by omega)(by omega),Nat.add_comm]
def Z5W(x:W4)(w:Int):W4:=⟨orW x.a w 0,x.b,x.c,x.d⟩
theorem Zvy{V w:Nat}(hV:V<1)(hw:w<4294967296):Z5W(ofN V)(w:Int)=ofN(V+1*w):=by
 have e:(ofN V).a=((V:Nat):Int):=by
  show((V:Nat):Int) % 18446744073709551616=_
  omega
 have q:=ZbK(y:=V)(w:=w)(s:=0)(by omega)(by have h1:(2:Nat)^0=1:=rfl;omega) hw
 have h2:(2:Nat)^0=1:=rfl
 rw[h2] at q
 unfold Z5W
 refine W4.ext' ?_ ?_ ?_ ?_
 ·show orW(ofN V).a w 0=((V+1*w:Nat):Int) % 18446744073709551616
  rw[e,q]
  omega
 ·show((V:Nat):Int)/18446744073709551616 % 18446744073709551616=((V+1*w:Nat):Int)/18446744073709551616 % 18446744073709551616
  omega
 ·show((V:Nat):Int)/340282366920938463463374607431768211456 % 18446744073709551616=((V+1*w:Nat):Int)/340282366920938463463374607431768211456 % 18446744073709551616
  omega
 ·show((V:Nat):Int)/6277101735386680763835789423207666416102355444464034512896 % 18446744073709551616=((V+1*w:Nat):Int)/6277101735386680763835789423207666416102355444464034512896 % 18446744073709551616
  omega
def Z5X(x:W4)(w:Int):W4:=⟨orW x.a w 32,x.b,x.c,x.d⟩
theorem Zvz{V w:Nat}(hV:V<4294967296)(hw:w<4294967296):Z5X(ofN V)(w:Int)=ofN(V+4294967296*w):=by
 have e:(ofN V).a=((V:Nat):Int):=by
  show((V:Nat):Int) % 18446744073709551616=_
  omega
 have q:=ZbK(y:=V)(w:=w)(s:=32)(by omega)(by have h1:(2:Nat)^32=4294967296:=rfl;omega) hw
 have h2:(2:Nat)^32=4294967296:=rfl
 rw[h2] at q
 unfold Z5X
 refine W4.ext' ?_ ?_ ?_ ?_
 ·show orW(ofN V).a w 32=((V+4294967296*w:Nat):Int) % 18446744073709551616
  rw[e,q]
  omega
 ·show((V:Nat):Int)/18446744073709551616 % 18446744073709551616=((V+4294967296*w:Nat):Int)/18446744073709551616 % 18446744073709551616
  omega
 ·show((V:Nat):Int)/340282366920938463463374607431768211456 % 18446744073709551616=((V+4294967296*w:Nat):Int)/340282366920938463463374607431768211456 % 18446744073709551616
  omega
 ·show((V:Nat):Int)/6277101735386680763835789423207666416102355444464034512896 % 18446744073709551616=((V+4294967296*w:Nat):Int)/6277101735386680763835789423207666416102355444464034512896 % 18446744073709551616
  omega
def Z5Y(x:W4)(w:Int):W4:=⟨x.a,orW x.b w 0,x.c,x.d⟩
theorem Zv0{V w:Nat}(hV:V<18446744073709551616)(hw:w<4294967296):Z5Y(ofN V)(w:Int)=ofN(V+18446744073709551616*w):=by
 have e:(ofN V).b=((V/18446744073709551616:Nat):Int):=by
  show((V:Nat):Int)/18446744073709551616 % 18446744073709551616=_
  omega
 have q:=ZbK(y:=V/18446744073709551616)(w:=w)(s:=0)(by omega)(by have h1:(2:Nat)^0=1:=rfl;omega) hw
 have h2:(2:Nat)^0=1:=rfl
 rw[h2] at q
 unfold Z5Y
 refine W4.ext' ?_ ?_ ?_ ?_
 ·show((V:Nat):Int) % 18446744073709551616=((V+18446744073709551616*w:Nat):Int) % 18446744073709551616
  omega
 ·show orW(ofN V).b w 0=((V+18446744073709551616*w:Nat):Int)/18446744073709551616 % 18446744073709551616
  rw[e,q]
  omega
 ·show((V:Nat):Int)/340282366920938463463374607431768211456 % 18446744073709551616=((V+18446744073709551616*w:Nat):Int)/340282366920938463463374607431768211456 % 18446744073709551616
  omega
 ·show((V:Nat):Int)/6277101735386680763835789423207666416102355444464034512896 % 18446744073709551616=((V+18446744073709551616*w:Nat):Int)/6277101735386680763835789423207666416102355444464034512896 % 18446744073709551616
  omega
def Z5Z(x:W4)(w:Int):W4:=⟨x.a,orW x.b w 32,x.c,x.d⟩
theorem Zv1{V w:Nat}(hV:V<79228162514264337593543950336)(hw:w<4294967296):Z5Z(ofN V)(w:Int)=ofN(V+79228162514264337593543950336*w):=by
 have e:(ofN V).b=((V/18446744073709551616:Nat):Int):=by
  show((V:Nat):Int)/18446744073709551616 % 18446744073709551616=_
  omega
 have q:=ZbK(y:=V/18446744073709551616)(w:=w)(s:=32)(by omega)(by have h1:(2:Nat)^32=4294967296:=rfl;omega) hw
 have h2:(2:Nat)^32=4294967296:=rfl
 rw[h2] at q
 unfold Z5Z
 refine W4.ext' ?_ ?_ ?_ ?_
 ·show((V:Nat):Int) % 18446744073709551616=((V+79228162514264337593543950336*w:Nat):Int) % 18446744073709551616
  omega
 ·show orW(ofN V).b w 32=((V+79228162514264337593543950336*w:Nat):Int)/18446744073709551616 % 18446744073709551616
  rw[e,q]
  omega
 ·show((V:Nat):Int)/340282366920938463463374607431768211456 % 18446744073709551616=((V+79228162514264337593543950336*w:Nat):Int)/340282366920938463463374607431768211456 % 18446744073709551616
  omega
 ·show((V:Nat):Int)/6277101735386680763835789423207666416102355444464034512896 % 18446744073709551616=((V+79228162514264337593543950336*w:Nat):Int)/6277101735386680763835789423207666416102355444464034512896 % 18446744073709551616
  omega
def Z6a(x:W4)(w:Int):W4:=⟨x.a,x.b,orW x.c w 0,x.d⟩
theorem Zv2{V w:Nat}(hV:V<340282366920938463463374607431768211456)(hw:w<4294967296):Z6a(ofN V)(w:Int)=ofN(V+340282366920938463463374607431768211456*w):=by
 have e:(ofN V).c=((V/340282366920938463463374607431768211456:Nat):Int):=by
  show((V:Nat):Int)/340282366920938463463374607431768211456 % 18446744073709551616=_
  omega
 have q:=ZbK(y:=V/340282366920938463463374607431768211456)(w:=w)(s:=0)(by omega)(by have h1:(2:Nat)^0=1:=rfl;omega) hw
 have h2:(2:Nat)^0=1:=rfl
 rw[h2] at q
 unfold Z6a
 refine W4.ext' ?_ ?_ ?_ ?_
 ·show((V:Nat):Int) % 18446744073709551616=((V+340282366920938463463374607431768211456*w:Nat):Int) % 18446744073709551616
  omega
 ·show((V:Nat):Int)/18446744073709551616 % 18446744073709551616=((V+340282366920938463463374607431768211456*w:Nat):Int)/18446744073709551616 % 18446744073709551616
  omega
 ·show orW(ofN V).c w 0=((V+340282366920938463463374607431768211456*w:Nat):Int)/340282366920938463463374607431768211456 % 18446744073709551616
  rw[e,q]
  omega
 ·show((V:Nat):Int)/6277101735386680763835789423207666416102355444464034512896 % 18446744073709551616=((V+340282366920938463463374607431768211456*w:Nat):Int)/6277101735386680763835789423207666416102355444464034512896 % 18446744073709551616
  omega
def Z6b(x:W4)(w:Int):W4:=⟨x.a,x.b,orW x.c w 32,x.d⟩
theorem Zv3{V w:Nat}(hV:V<1461501637330902918203684832716283019655932542976)(hw:w<4294967296):Z6b(ofN V)(w:Int)=ofN(V+1461501637330902918203684832716283019655932542976*w):=by
 have e:(ofN V).c=((V/340282366920938463463374607431768211456:Nat):Int):=by
  show((V:Nat):Int)/340282366920938463463374607431768211456 % 18446744073709551616=_
  omega
 have q:=ZbK(y:=V/340282366920938463463374607431768211456)(w:=w)(s:=32)(by omega)(by have h1:(2:Nat)^32=4294967296:=rfl;omega) hw
 have h2:(2:Nat)^32=4294967296:=rfl
 rw[h2] at q
 unfold Z6b
 refine W4.ext' ?_ ?_ ?_ ?_
 ·show((V:Nat):Int) % 18446744073709551616=((V+1461501637330902918203684832716283019655932542976*w:Nat):Int) % 18446744073709551616
  omega
 ·show((V:Nat):Int)/18446744073709551616 % 18446744073709551616=((V+1461501637330902918203684832716283019655932542976*w:Nat):Int)/18446744073709551616 % 18446744073709551616
  omega
 ·show orW(ofN V).c w 32=((V+1461501637330902918203684832716283019655932542976*w:Nat):Int)/340282366920938463463374607431768211456 % 18446744073709551616
  rw[e,q]
  omega
 ·show((V:Nat):Int)/6277101735386680763835789423207666416102355444464034512896 % 18446744073709551616=((V+1461501637330902918203684832716283019655932542976*w:Nat):Int)/6277101735386680763835789423207666416102355444464034512896 % 18446744073709551616
  omega
def Z6c(x:W4)(w:Int):W4:=⟨x.a,x.b,x.c,orW x.d w 0⟩
theorem Zv4{V w:Nat}(hV:V<6277101735386680763835789423207666416102355444464034512896)(hw:w<4294967296):Z6c(ofN V)(w:Int)=ofN(V+6277101735386680763835789423207666416102355444464034512896*w):=by
 have e:(ofN V).d=((V/6277101735386680763835789423207666416102355444464034512896:Nat):Int):=by
  show((V:Nat):Int)/6277101735386680763835789423207666416102355444464034512896 % 18446744073709551616=_
  omega
 have q:=ZbK(y:=V/6277101735386680763835789423207666416102355444464034512896)(w:=w)(s:=0)(by omega)(by have h1:(2:Nat)^0=1:=rfl;omega) hw
 have h2:(2:Nat)^0=1:=rfl
 rw[h2] at q
 unfold Z6c
 refine W4.ext' ?_ ?_ ?_ ?_
 ·show((V:Nat):Int) % 18446744073709551616=((V+6277101735386680763835789423207666416102355444464034512896*w:Nat):Int) % 18446744073709551616
  omega
 ·show((V:Nat):Int)/18446744073709551616 % 18446744073709551616=((V+6277101735386680763835789423207666416102355444464034512896*w:Nat):Int)/18446744073709551616 % 18446744073709551616
  omega
 ·show((V:Nat):Int)/340282366920938463463374607431768211456 % 18446744073709551616=((V+6277101735386680763835789423207666416102355444464034512896*w:Nat):Int)/340282366920938463463374607431768211456 % 18446744073709551616
  omega
 ·show orW(ofN V).d w 0=((V+6277101735386680763835789423207666416102355444464034512896*w:Nat):Int)/6277101735386680763835789423207666416102355444464034512896 % 18446744073709551616
  rw[e,q]
  omega
def Z6d(x:W4)(w:Int):W4:=⟨x.a,x.b,x.c,orW x.d w 32⟩
theorem Zv5{V w:Nat}(hV:V<26959946667150639794667015087019630673637144422540572481103610249216)(hw:w<4294967296):Z6d(ofN V)(w:Int)=ofN(V+26959946667150639794667015087019630673637144422540572481103610249216*w):=by
 have e:(ofN V).d=((V/6277101735386680763835789423207666416102355444464034512896:Nat):Int):=by
  show((V:Nat):Int)/6277101735386680763835789423207666416102355444464034512896 % 18446744073709551616=_
  omega
 have q:=ZbK(y:=V/6277101735386680763835789423207666416102355444464034512896)(w:=w)(s:=32)(by omega)(by have h1:(2:Nat)^32=4294967296:=rfl;omega) hw
 have h2:(2:Nat)^32=4294967296:=rfl
 rw[h2] at q
 unfold Z6d
 refine W4.ext' ?_ ?_ ?_ ?_
 ·show((V:Nat):Int) % 18446744073709551616=((V+26959946667150639794667015087019630673637144422540572481103610249216*w:Nat):Int) % 18446744073709551616
  omega
 ·show((V:Nat):Int)/18446744073709551616 % 18446744073709551616=((V+26959946667150639794667015087019630673637144422540572481103610249216*w:Nat):Int)/18446744073709551616 % 18446744073709551616
  omega
 ·show((V:Nat):Int)/340282366920938463463374607431768211456 % 18446744073709551616=((V+26959946667150639794667015087019630673637144422540572481103610249216*w:Nat):Int)/340282366920938463463374607431768211456 % 18446744073709551616
  omega
 ·show orW(ofN V).d w 32=((V+26959946667150639794667015087019630673637144422540572481103610249216*w:Nat):Int)/6277101735386680763835789423207666416102355444464034512896 % 18446744073709551616
  rw[e,q]
  omega
end Go.Rd
