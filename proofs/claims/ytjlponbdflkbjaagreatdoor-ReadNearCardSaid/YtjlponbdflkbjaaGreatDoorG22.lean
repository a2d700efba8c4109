/-
  RnE, RdZ, RdK, NumRh, RdL, RdM
-/
import Derived.Test.YtjlponbdflkbjaaGreatDoorG21
import Derived.Test.YtjlponbdflkbjaaGreatDoorG05
import Derived.Test.YtjlponbdflkbjaaGreatDoorG06
import Derived.Test.YtjlponbdflkbjaaGreatDoorG07
namespace Go.Proofs.YtjlponbdflkbjaaGreatDoor
open Go.KRun Go.Wd Go.Pt Go.Rn
set_option maxRecDepth 100000
def lgR(ex:Int)(x:W4):Int:=lgW(clp ex) x
def e0(ex:Int)(x:W4):Int:=if -1074>m52(lgR ex x) then -1074 else m52(lgR ex x)
def qR(m:Int)(n:Bool)(x:W4)(b:Bool)(ex:Int):Nat:=toQ m n(tw x b)(clp ex-1)(e0 ex x)
def oR(x:W4)(b:Bool)(ex:Int):Bool:=toL(tw x b)(clp ex-1)(e0 ex x)
def pR(m:Int)(n:Bool)(x:W4)(b:Bool)(ex:Int):Int:=IntKind.u64.wrap(IntKind.u64.wrap(IntKind.u64.wrap(IntKind.i64.wrap(e0 ex x - -1074))*2^min(Int.toNat 52) 64)+(ofN(qR m n x b ex)).a)
def sgR(n:Bool)(p:Int):Int:=match n with | true=>Z5e p 9223372036854775808 | false=>p
def lTm(m:Int)(n:Bool)(x:W4)(b:Bool)(ex:Int)(o d:Bool):Log:=[(oR x b ex,o),(decide(qR m n x b ex<2^256),true),(Zh5 x(clp ex)(e0 ex x),true),(decide x.ok,true),(eqW x⟨0,0,0,0⟩,d)]
def Zzj(m:Int)(n:Bool)(x:W4)(b:Bool)(ex:Int)(d:Bool):Bool×Bool:=(decide(pR m n x b ex≥9218868437227405312),d)
def l52:Bool×Bool:=(decide((52:Int)<0),false)
def rdT(p f:Int):Value:= .tuple #[.int .u64 p,.int .u8 f]
theorem Zxz(n:Bool)(x:W4)(ex m:Int):Z7(Zn(Zi Tryz.prog Zf ZgO true) 300 19 [vN n ex x false,.int .i64 m] [sam true])(rdT(sgR n 0) 0) [(eqW x⟨0,0,0,0⟩,true)]:=by
 cases n<;>exact⟨by kernel_rfl,by kernel_rfl,by kernel_rfl,by kernel_rfl⟩
theorem Z2u(n b o:Bool)(x:W4)(ex m:Int):Z7(Zn(Zi Tryz.prog Zf ZgO true) 300 19 [vN n ex x b,.int .i64 m] [sam false,cmp true,cmp o,cmp true])(rdT(sgR n(bey m n)) 20)(Zzj m n x b ex true::l52::lTm m n x b ex o false):=by
 cases n<;>cases o<;>exact⟨by kernel_rfl,by kernel_rfl,by kernel_rfl,by kernel_rfl⟩
theorem Zx0(n o:Bool)(x:W4)(ex m:Int):Z7(Zn(Zi Tryz.prog Zf ZgO true) 300 19 [vN n ex x true,.int .i64 m] [sam true,cmp true,cmp o,cmp true])(rdT(sgR n(bey m n)) 20)(Zzj m n x true ex true::l52::lTm m n x true ex o true):=by
 cases n<;>cases o<;>exact⟨by kernel_rfl,by kernel_rfl,by kernel_rfl,by kernel_rfl⟩
theorem Zx1(n b:Bool)(x:W4)(ex m:Int):Z7(Zn(Zi Tryz.prog Zf ZgO true) 300 19 [vN n ex x b,.int .i64 m] [sam false,cmp true,cmp false,cmp false])(rdT(sgR n(pR m n x b ex)) 0)(Zzj m n x b ex false::l52::lTm m n x b ex false false):=by
 cases n<;>exact⟨by kernel_rfl,by kernel_rfl,by kernel_rfl,by kernel_rfl⟩
theorem ZrI(n:Bool)(x:W4)(ex m:Int):Z7(Zn(Zi Tryz.prog Zf ZgO true) 300 19 [vN n ex x true,.int .i64 m] [sam true,cmp true,cmp false,cmp false])(rdT(sgR n(pR m n x true ex)) 0)(Zzj m n x true ex false::l52::lTm m n x true ex false true):=by
 cases n<;>exact⟨by kernel_rfl,by kernel_rfl,by kernel_rfl,by kernel_rfl⟩
def fgT(t:Bool):Int:=match t with | true=>24 | false=>16
def lTn(m:Int)(n:Bool)(x:W4)(b:Bool)(ex:Int)(t:Bool)(l:Log):Log:=(tnK m n(tw x b)(clp ex-1)(lgR ex x),t)::(decide(lgR ex x= -1023→toQ m n(tw x b)(clp ex-1)(-1075)<2^256),true)::(Zh5 x(clp ex) 0,true)::l
theorem Zx2(n b t:Bool)(x:W4)(ex m:Int):Z7(Zn(Zi Tryz.prog Zf ZgO true) 300 19 [vN n ex x b,.int .i64 m] [sam false,cmp true,cmp true,cmp false,cmp t])(rdT(sgR n(pR m n x b ex))(fgT t))(lTn m n x b ex t(Zzj m n x b ex false::l52::lTm m n x b ex true false)):=by
 cases n<;>cases t<;>exact⟨by kernel_rfl,by kernel_rfl,by kernel_rfl,by kernel_rfl⟩
theorem ZrJ(n t:Bool)(x:W4)(ex m:Int):Z7(Zn(Zi Tryz.prog Zf ZgO true) 300 19 [vN n ex x true,.int .i64 m] [sam true,cmp true,cmp true,cmp false,cmp t])(rdT(sgR n(pR m n x true ex))(fgT t))(lTn m n x true ex t(Zzj m n x true ex false::l52::lTm m n x true ex true true)):=by
 cases n<;>cases t<;>exact⟨by kernel_rfl,by kernel_rfl,by kernel_rfl,by kernel_rfl⟩
theorem Zt3{x:W4}{b:Bool}(h:tw x b≠0):bitLen(tw x b)=bitLen x.nat+1:=by
 have hd:tw x b/2^1=x.nat:=by
  have:=Zlt x b 0
  simpa using this
 by_cases h0:x.nat=0
 ·have:tw x b=1:=by
   have e:tw x b/2=x.nat:=by simpa using hd
   omega
  rw[this,h0]
  rfl
 ·rw[bitLen_shift(tw x b) 1(by rw[hd];exact h0),hd]
  omega
theorem Zt4{x:W4}(hx:x.ok):bitLen x.nat≤256:=len_le(W4.nat_lt hx)
theorem Zt5{x:W4}{b:Bool}{ex:Int}(hx:x.ok)(h:tw x b≠0):lgR ex x=lgN(tw x b)(clp ex-1):=by
 have h1:=ZnV ex
 have h2:=Zt4 hx
 unfold lgR lgW lgN
 rw[Zji,Zt3 h,Zbx(n:=clp ex+((bitLen x.nat:Nat):Int))⟨by omega,by omega⟩,Zbx⟨by omega,by omega⟩]
 omega
theorem Zt6{x:W4}{b:Bool}{ex:Int}(hx:x.ok)(h:tw x b≠0): -2002≤lgN(tw x b)(clp ex-1)∧lgN(tw x b)(clp ex-1)≤2300:=by
 have h1:=ZnV ex
 have h2:=Zt4 hx
 unfold lgN
 rw[Zt3 h]
 omega
theorem Z2v{x:W4}{b:Bool}{ex:Int}(hx:x.ok)(h:tw x b≠0):e0 ex x=zx(tw x b)(clp ex-1):=by
 have hb:=Zt6(ex:=ex) hx h
 unfold e0 m52 zx
 rw[Zt5 hx h,Zbx⟨by omega,by omega⟩]
 split<;>split<;>omega
theorem ZnW{x:W4}{b:Bool}{ex:Int}(hx:x.ok)(h:tw x b≠0): -1074≤zx(tw x b)(clp ex-1)∧zx(tw x b)(clp ex-1)≤2300:=by
 have hb:=Zt6(ex:=ex) hx h
 unfold zx
 split<;>omega
theorem Z7W{q:Nat}(h:q<18446744073709551616):(ofN q).a=(q:Int):=by unfold ofN W4.of;dsimp only;omega
theorem Z7X{m:Int}{n:Bool}{x:W4}{b:Bool}{ex:Int}(hx:x.ok)(h:tw x b≠0):pR m n x b ex=p0 m n(tw x b)(clp ex-1)∧p0 m n(tw x b)(clp ex-1)<18446744073709551616:=by
 have hb:=ZnW(ex:=ex) hx h
 have hq:=Zgq m n(tw x b)(clp ex-1)
 have e1:((2:Int)^min(Int.toNat 52) 64)=4503599627370496:=by rfl
 unfold pR qR p0
 rw[Z2v hx h,Z7W(by omega),e1,Zbx⟨by omega,by omega⟩,wrapU'(n:=zx(tw x b)(clp ex-1) - -1074)⟨by omega,by omega⟩,wrapU'(n:=(zx(tw x b)(clp ex-1) - -1074)*4503599627370496)⟨by omega,by omega⟩,wrapU'⟨by omega,by omega⟩]
 omega
def sS(n:Bool)(p:Int):Int:=if n=true then 9223372036854775808+p else p
theorem ZnX{n:Bool}{p:Int}(h0:0≤p)(h1:p≤9218868437227405312):sgR n p=sS n p:=by
 cases n
 ·rfl
 ·simp only[sgR,sS,if_true]
  rw[Zlc⟨by omega,by omega⟩]
  omega
theorem Z2w(m:Int)(n:Bool)(T:Nat)(E:Int):tnK m n T E(lgN T E)=Zd6 m n T E:=rfl
def rdV(m:Int)(n:Bool)(T:Nat)(E:Int):Value:=rdT(sS n(rnP m n T E))(rnF m n T E)
theorem ZhH(n b:Bool)(x:W4)(ex m:Int)(hx:x.ok)(w:World):Calls Tryz.prog 19 #[vN n ex x b,.int .i64 m] w fun r w'=>r= .returned(rdV m n(tw x b)(clp ex-1))∧Zad w w':=by
 have hv:([vN n ex x b,.int .i64 m].all(lt 0))=true:=rfl
 unfold rdV
 by_cases hz:tw x b=0
 ·have h1:=(Zlu hx).1 hz
  rw[Bool.and_eq_true] at h1
  have hb:b=false:=by simpa using h1.2
  subst hb
  have h:=Zc(Zk Zbw)(Zxz n x ex m)(Z3 h1.1) hv(by rfl) w
  rw[ZnX(by omega)(by omega)] at h
  unfold rnP rnF
  rw[if_pos hz,if_pos hz]
  exact h
 ·obtain⟨ep,hp⟩:=Z7X(m:=m)(n:=n)(ex:=ex) hx hz
  have hbd:=ZnV ex
  have hel:=ZnW(ex:=ex) hx hz
  have hq:=Zgq m n(tw x b)(clp ex-1)
  have ee:=Z2v(ex:=ex) hx hz
  have el:=Zt5(ex:=ex) hx hz
  have hp0:=Zle m n(tw x b)(clp ex-1)
  have e256:(2:Nat)^256=115792089237316195423570985008687907853269984665640564039457584007913129639936:=rfl
  have kq:decide(qR m n x b ex<2^256)=true:=decide_eq_true(by unfold qR;rw[ee];omega)
  have kt:Zh5 x(clp ex)(e0 ex x)=true:=decide_eq_true⟨hx,by omega,by omega,by omega,by omega⟩
  have kt0:Zh5 x(clp ex) 0=true:=decide_eq_true⟨hx,by omega,by omega,by omega,by omega⟩
  have kx:decide x.ok=true:=decide_eq_true hx
  have ko:oR x b ex=toL(tw x b)(clp ex-1)(zx(tw x b)(clp ex-1)):=by unfold oR;rw[ee]
  have kn:decide(lgR ex x= -1023→toQ m n(tw x b)(clp ex-1)(-1075)<2^256)=true:=decide_eq_true fun hl=>by
   rw[el] at hl
   have:toQ m n(tw x b)(clp ex-1)(-1075)≤2^53:=Zij(by unfold lgN at hl;omega)
   have e53:(2:Nat)^53=9007199254740992:=rfl
   omega
  have key:∃ d,eqW x⟨0,0,0,0⟩=d∧(d=false∨(d=true∧b=true)):=by
   refine⟨_,rfl,?_⟩
   cases he:eqW x⟨0,0,0,0⟩
   ·exact .inl rfl
   ·right
    refine⟨rfl,?_⟩
    cases hb:b
    ·exact absurd((Zlu hx).2(by rw[he,hb];rfl)) hz
    ·rfl
  obtain⟨d,hd,hdb⟩:=key
  have lt5:∀ o,oR x b ex=o→Z4(lTm m n x b ex o d):=fun o ho=>Za ho(Za kq(Za kt(Za kx(Z3 hd))))
  unfold rnP rnF
  rw[if_neg hz,if_neg hz]
  by_cases hbig:9218868437227405312≤p0 m n(tw x b)(clp ex-1)
  ·rw[if_pos hbig,if_pos hbig]
   have hb2:=Zz8 m n
   have hs:sgR n(bey m n)=sS n(bey m n):=ZnX(by omega)(by omega)
   rw[← hs]
   have lB:decide(pR m n x b ex≥9218868437227405312)=true:=decide_eq_true(by rw[ep];exact hbig)
   rcases hdb with rfl | ⟨rfl,rfl⟩
   ·exact Zc(Zk Zbw)(Z2u n b(oR x b ex) x ex m)(Za lB(Za rfl(lt5 _ rfl))) hv(by rfl) w
   ·exact Zc(Zk Zbw)(Zx0 n(oR x true ex) x ex m)(Za lB(Za rfl(lt5 _ rfl))) hv(by rfl) w
  ·rw[if_neg hbig,if_neg hbig]
   have hs:sgR n(pR m n x b ex)=sS n(p0 m n(tw x b)(clp ex-1)):=by rw[ep];exact ZnX hp0(by omega)
   rw[← hs]
   have lB:decide(pR m n x b ex≥9218868437227405312)=false:=decide_eq_false(by rw[ep];exact hbig)
   by_cases hl:toL(tw x b)(clp ex-1)(zx(tw x b)(clp ex-1))=true
   ·rw[if_pos hl]
    have ht:tnK m n(tw x b)(clp ex-1)(lgR ex x)=Zd6 m n(tw x b)(clp ex-1):=by rw[el,Z2w]
    have ef:(if Zd6 m n(tw x b)(clp ex-1)=true then(24:Int) else 16)=fgT(Zd6 m n(tw x b)(clp ex-1)):=by
     cases Zd6 m n(tw x b)(clp ex-1)<;>rfl
    rw[ef]
    rcases hdb with rfl | ⟨rfl,rfl⟩
    ·exact Zc(Zk Zbw)(Zx2 n b(Zd6 m n(tw x b)(clp ex-1)) x ex m)(Za ht(Za kn(Za kt0(Za lB(Za rfl(lt5 _(ko.trans hl))))))) hv(by rfl) w
    ·exact Zc(Zk Zbw)(ZrJ n(Zd6 m n(tw x true)(clp ex-1)) x ex m)(Za ht(Za kn(Za kt0(Za lB(Za rfl(lt5 _(ko.trans hl))))))) hv(by rfl) w
   ·rw[if_neg hl]
    have hl':=ko.trans(by simpa using hl)
    rcases hdb with rfl | ⟨rfl,rfl⟩
    ·exact Zc(Zk Zbw)(Zx1 n b x ex m)(Za lB(Za rfl(lt5 _ hl'))) hv(by rfl) w
    ·exact Zc(Zk Zbw)(ZrI n x ex m)(Za lB(Za rfl(lt5 _ hl'))) hv(by rfl) w
def gRd:Ans:=fun vals s=>
 match vals with
 | [v,.int .i64 m]=>
  match n7 v with
  | some(n,ex,x,b)=>some(rdV m n(tw x b)(clp ex-1),s,[(decide x.ok,true)])
  | none=>none
 | _=>none
theorem Z2x:ZT 19 gRd:=by
 intro vals s v s' lg h hl w
 unfold gRd at h
 split at h
 ·split at h
  ·rename_i n ex x b hn
   cases h
   rw[Zcl hn]
   exact ZhH n b x ex _(of_decide_eq_true(hl _(List.mem_singleton.2 rfl))) w
  ·cases h
 ·cases h
end Go.Proofs.YtjlponbdflkbjaaGreatDoor
namespace Go.Proofs.YtjlponbdflkbjaaGreatDoor
open Go.KRun Go.Nt Go.Rd Go.Wd Go.Rn
set_option maxRecDepth 100000
def Zb3:Con:=alt 15 Z44(alt 28 Zp5(alt 31 Z52(alt 32 Z5u(alt 18 Z7T(alt 19 gRd Zo)))))
theorem ZfU:ConOk Zb3:=ZA Tryz.func15 rfl ZlN(ZA Tryz.func28 rfl Ziu(ZA Tryz.func31 rfl ZuO(ZA Tryz.func32 rfl ZuI(ZA Tryz.func18 rfl Zxs(ZA Tryz.func19 rfl Z2x Zd)))))
def paW(p f:Int)(e:Value):Value:= .tuple #[.int .u64 p,.int .u8 f,e]
def erZ(k:Int):Value:= .iface 42(.int .i64 k)
def Zzk:List UInt8:=[105,110,102]
def Z4O:List UInt8:=[110,97,110]
def lB0(l:List UInt8)(mn:Bool):Log:=[Zb4(sgT l).2 Z4O false,Zb4(sgT l).2 Zzk false,((sgT l).1,mn),(decide(((l.length:Nat):Int)>65536),false)]
def lTd(b:Int)(v:List UInt8)(d:Bool)(l:Log):Log:=(decide((sc1 b false v).1≠[]),d)::(decide((b=10∨b=16)∧v.length≤100000),true)::l
def lWn(r:List UInt8)(d:Bool)(l:Log):Log:=(wnK r,d)::(decide(r.length≤100000),true)::l
def ZhI(b:Int)(v:List UInt8):List UInt8:=nuD(sc1 b false v).1
def nuK(b:Int)(v:List UInt8):Int:=((trZ(sc1 b false v).1).length:Nat)-((sc1 b false v).2.1:Nat)
def rst(b:Int)(v:List UInt8):List UInt8:=(sc1 b false v).2.2
def lNo(b:Int)(v:List UInt8)(P:Int)(l:Log):Log:=(decide(ofN(noS b(ZhI b v)(nuK b v) P)).ok,true)::(decide(ZhI b v=[]),false)::(Zzg b(ZhI b v)(nuK b v) P,true)::l
def lNz(b:Int)(v:List UInt8)(l:Log):Log:=(decide(⟨0,0,0,0⟩:W4).ok,true)::(decide(ZhI b v=[]),true)::l
def pzV(m:Int)(mn:Bool):Value:=paW(sS mn(rnP m mn(tw⟨0,0,0,0⟩ false)(clp 0-1)))(rnF m mn(tw⟨0,0,0,0⟩ false)(clp 0-1)) .nilIface
def pnV(m:Int)(mn:Bool)(b:Int)(D:List UInt8)(k P:Int):Value:=paW(sS mn(rnP m mn(tw(ofN(noS b D k P))(noM b D k P))(clp(noE b D k P)-1)))(rnF m mn(tw(ofN(noS b D k P))(noM b D k P))(clp(noE b D k P)-1)) .nilIface
theorem ZrK(l:List UInt8)(m:Int):Z7(Zn(Zi Tryz.prog Zf Zb3 true) 300 9 [bR l,.int .i64 m] [cmp true])(paW 0 0(erZ 2))([(decide(((l.length:Nat):Int)>65536),true)]):=⟨by kernel_rfl,by kernel_rfl,by kernel_rfl,by kernel_rfl⟩
theorem ZrL(l:List UInt8)(m:Int):Z7(Zn(Zi Tryz.prog Zf Zb3 true) 300 9 [bR l,.int .i64 m] [cmp false,cmp true,sam true])(paW 18442240474082181120 0 .nilIface)([Zb4(sgT l).2 Zzk true,((sgT l).1,true),(decide(((l.length:Nat):Int)>65536),false)]):=⟨by kernel_rfl,by kernel_rfl,by kernel_rfl,by kernel_rfl⟩
theorem ZrM(l:List UInt8)(m:Int):Z7(Zn(Zi Tryz.prog Zf Zb3 true) 300 9 [bR l,.int .i64 m] [cmp false,cmp false,sam true])(paW 9218868437227405312 0 .nilIface)([Zb4(sgT l).2 Zzk true,((sgT l).1,false),(decide(((l.length:Nat):Int)>65536),false)]):=⟨by kernel_rfl,by kernel_rfl,by kernel_rfl,by kernel_rfl⟩
theorem Zx3(l:List UInt8)(m:Int)(mn:Bool):Z7(Zn(Zi Tryz.prog Zf Zb3 true) 300 9 [bR l,.int .i64 m] [cmp false,cmp mn,sam false,sam true])(paW 9221120237041090560 0 .nilIface)([Zb4(sgT l).2 Z4O true,Zb4(sgT l).2 Zzk false,((sgT l).1,mn),(decide(((l.length:Nat):Int)>65536),false)]):=⟨by kernel_rfl,by kernel_rfl,by kernel_rfl,by kernel_rfl⟩
theorem Z2y(l:List UInt8)(m:Int)(mn:Bool):Z7(Zn(Zi Tryz.prog Zf Zb3 true) 300 9 [bR l,.int .i64 m] [cmp false,cmp mn,sam false,sam false,cmp false,cmp false])(paW 0 0(erZ 3))(lTd 10(sgT l).2 false((Zap [48,120](sgT l).2,false)::lB0 l mn)):=⟨by kernel_rfl,by kernel_rfl,by kernel_rfl,by kernel_rfl⟩
theorem Z2z(l:List UInt8)(m:Int)(mn:Bool):Z7(Zn(Zi Tryz.prog Zf Zb3 true) 300 9 [bR l,.int .i64 m] [cmp false,cmp mn,sam false,sam false,cmp false,cmp true,sam false,cmp false])(paW 0 0(erZ 3))((Zap [101](rst 10(sgT l).2),false)::Zb4(rst 10(sgT l).2) [] false::lTd 10(sgT l).2 true((Zap [48,120](sgT l).2,false)::lB0 l mn)):=⟨by kernel_rfl,by kernel_rfl,by kernel_rfl,by kernel_rfl⟩
theorem Z20(l:List UInt8)(m:Int)(mn:Bool):Z7(Zn(Zi Tryz.prog Zf Zb3 true) 300 9 [bR l,.int .i64 m] [cmp false,cmp mn,sam false,sam false,cmp false,cmp true,sam false,cmp true,cmp false])(paW 0 0(erZ 3))(lWn((rst 10(sgT l).2).drop 1) false((Zap [101](rst 10(sgT l).2),true)::Zb4(rst 10(sgT l).2) [] false::lTd 10(sgT l).2 true((Zap [48,120](sgT l).2,false)::lB0 l mn))):=⟨by kernel_rfl,by kernel_rfl,by kernel_rfl,by kernel_rfl⟩
theorem Zx4(l:List UInt8)(m:Int)(mn:Bool):Z7(Zn(Zi Tryz.prog Zf Zb3 true) 300 9 [bR l,.int .i64 m] [cmp false,cmp mn,sam false,sam false,cmp false,cmp true,sam true,cmp true])(pzV m mn)(lNz 10(sgT l).2(Zb4(rst 10(sgT l).2) [] true::lTd 10(sgT l).2 true((Zap [48,120](sgT l).2,false)::lB0 l mn))):=⟨by kernel_rfl,by kernel_rfl,by kernel_rfl,by kernel_rfl⟩
theorem Z21(l:List UInt8)(m:Int)(mn:Bool):Z7(Zn(Zi Tryz.prog Zf Zb3 true) 300 9 [bR l,.int .i64 m] [cmp false,cmp mn,sam false,sam false,cmp false,cmp true,sam true,cmp false])(pnV m mn 10(ZhI 10(sgT l).2)(nuK 10(sgT l).2) 0)(lNo 10(sgT l).2 0(Zb4(rst 10(sgT l).2) [] true::lTd 10(sgT l).2 true((Zap [48,120](sgT l).2,false)::lB0 l mn))):=⟨by kernel_rfl,by kernel_rfl,by kernel_rfl,by kernel_rfl⟩
theorem Zx5(l:List UInt8)(m:Int)(mn:Bool):Z7(Zn(Zi Tryz.prog Zf Zb3 true) 300 9 [bR l,.int .i64 m] [cmp false,cmp mn,sam false,sam false,cmp false,cmp true,sam false,cmp true,cmp true,cmp true])(pzV m mn)(lNz 10(sgT l).2(lWn((rst 10(sgT l).2).drop 1) true((Zap [101](rst 10(sgT l).2),true)::Zb4(rst 10(sgT l).2) [] false::lTd 10(sgT l).2 true((Zap [48,120](sgT l).2,false)::lB0 l mn)))):=⟨by kernel_rfl,by kernel_rfl,by kernel_rfl,by kernel_rfl⟩
theorem Z22(l:List UInt8)(m:Int)(mn:Bool):Z7(Zn(Zi Tryz.prog Zf Zb3 true) 300 9 [bR l,.int .i64 m] [cmp false,cmp mn,sam false,sam false,cmp false,cmp true,sam false,cmp true,cmp true,cmp false])(pnV m mn 10(ZhI 10(sgT l).2)(nuK 10(sgT l).2)(wnP((rst 10(sgT l).2).drop 1)))(lNo 10(sgT l).2(wnP((rst 10(sgT l).2).drop 1))(lWn((rst 10(sgT l).2).drop 1) true((Zap [101](rst 10(sgT l).2),true)::Zb4(rst 10(sgT l).2) [] false::lTd 10(sgT l).2 true((Zap [48,120](sgT l).2,false)::lB0 l mn)))):=⟨by kernel_rfl,by kernel_rfl,by kernel_rfl,by kernel_rfl⟩
theorem Z23(l:List UInt8)(m:Int)(mn:Bool):Z7(Zn(Zi Tryz.prog Zf Zb3 true) 300 9 [bR l,.int .i64 m] [cmp false,cmp mn,sam false,sam false,cmp true,cmp false])(paW 0 0(erZ 3))(lTd 16((sgT l).2.drop 2) false((Zap [48,120](sgT l).2,true)::lB0 l mn)):=⟨by kernel_rfl,by kernel_rfl,by kernel_rfl,by kernel_rfl⟩
theorem Z24(l:List UInt8)(m:Int)(mn:Bool):Z7(Zn(Zi Tryz.prog Zf Zb3 true) 300 9 [bR l,.int .i64 m] [cmp false,cmp mn,sam false,sam false,cmp true,cmp true,sam true])(paW 0 0(erZ 3))(Zb4(rst 16((sgT l).2.drop 2)) [] true::lTd 16((sgT l).2.drop 2) true((Zap [48,120](sgT l).2,true)::lB0 l mn)):=⟨by kernel_rfl,by kernel_rfl,by kernel_rfl,by kernel_rfl⟩
theorem Z25(l:List UInt8)(m:Int)(mn:Bool):Z7(Zn(Zi Tryz.prog Zf Zb3 true) 300 9 [bR l,.int .i64 m] [cmp false,cmp mn,sam false,sam false,cmp true,cmp true,sam false,cmp false])(paW 0 0(erZ 3))((Zap [112](rst 16((sgT l).2.drop 2)),false)::Zb4(rst 16((sgT l).2.drop 2)) [] false::lTd 16((sgT l).2.drop 2) true((Zap [48,120](sgT l).2,true)::lB0 l mn)):=⟨by kernel_rfl,by kernel_rfl,by kernel_rfl,by kernel_rfl⟩
theorem Z26(l:List UInt8)(m:Int)(mn:Bool):Z7(Zn(Zi Tryz.prog Zf Zb3 true) 300 9 [bR l,.int .i64 m] [cmp false,cmp mn,sam false,sam false,cmp true,cmp true,sam false,cmp true,cmp false])(paW 0 0(erZ 3))(lWn((rst 16((sgT l).2.drop 2)).drop 1) false((Zap [112](rst 16((sgT l).2.drop 2)),true)::Zb4(rst 16((sgT l).2.drop 2)) [] false::lTd 16((sgT l).2.drop 2) true((Zap [48,120](sgT l).2,true)::lB0 l mn))):=⟨by kernel_rfl,by kernel_rfl,by kernel_rfl,by kernel_rfl⟩
theorem Zx6(l:List UInt8)(m:Int)(mn:Bool):Z7(Zn(Zi Tryz.prog Zf Zb3 true) 300 9 [bR l,.int .i64 m] [cmp false,cmp mn,sam false,sam false,cmp true,cmp true,sam false,cmp true,cmp true,cmp true])(pzV m mn)(lNz 16((sgT l).2.drop 2)(lWn((rst 16((sgT l).2.drop 2)).drop 1) true((Zap [112](rst 16((sgT l).2.drop 2)),true)::Zb4(rst 16((sgT l).2.drop 2)) [] false::lTd 16((sgT l).2.drop 2) true((Zap [48,120](sgT l).2,true)::lB0 l mn)))):=⟨by kernel_rfl,by kernel_rfl,by kernel_rfl,by kernel_rfl⟩
theorem Z27(l:List UInt8)(m:Int)(mn:Bool):Z7(Zn(Zi Tryz.prog Zf Zb3 true) 300 9 [bR l,.int .i64 m] [cmp false,cmp mn,sam false,sam false,cmp true,cmp true,sam false,cmp true,cmp true,cmp false])(pnV m mn 16(ZhI 16((sgT l).2.drop 2))(nuK 16((sgT l).2.drop 2))(wnP((rst 16((sgT l).2.drop 2)).drop 1)))(lNo 16((sgT l).2.drop 2)(wnP((rst 16((sgT l).2.drop 2)).drop 1))(lWn((rst 16((sgT l).2.drop 2)).drop 1) true((Zap [112](rst 16((sgT l).2.drop 2)),true)::Zb4(rst 16((sgT l).2.drop 2)) [] false::lTd 16((sgT l).2.drop 2) true((Zap [48,120](sgT l).2,true)::lB0 l mn)))):=⟨by kernel_rfl,by kernel_rfl,by kernel_rfl,by kernel_rfl⟩
def ZrN(l:List UInt8):Bool:=decide(l.length≤10000∨65536<l.length)
theorem Z7Y(m:Int)(n:Bool){S:Nat}(hS:S<2^256)(b:Bool)(E:Int):rnP m n(tw(ofN S) b)(clp E-1)=rnP m n(2*S+bt b)(E-1)∧rnF m n(tw(ofN S) b)(clp E-1)=rnF m n(2*S+bt b)(E-1):=by
 obtain⟨p,f⟩:=ZeR(m:=m)(neg:=n)(zJ S) b(C:=clp E)(D:=E)(by unfold clp;split<;>split<;>omega)
 obtain⟨p',f'⟩:=ZeR(m:=m)(neg:=n)(zJ S) b(C:=E)(D:=E)(.inl rfl)
 have e:tw(ofN S) b=2*S+bt b:=by unfold tw;rw[Zbn hS];rfl
 rw[e] at p f p' f'
 rw[e]
 exact⟨p.trans p'.symm,f.trans f'.symm⟩
theorem ZnY{b:Int}{l:List UInt8}(ha:zi b l=true):nuD l=[]↔trZ l=[]:=by
 unfold nuD
 constructor
 ·intro h
  cases hT:trZ l with
  | nil=>rfl
  | cons c r=>
   obtain⟨r',hr'⟩:=Zc5(b:=b)(r:=r)(ZaO ha hT)
   rw[hT,hr'] at h
   cases h
 ·intro h
  rw[h]
  rfl
theorem Zx7{l:List UInt8}(ha:zi 10 l=true)(hz:trZ l≠[]):nmB 10(shR 800(nuD l))≠0:=by
 cases hT:trZ l with
 | nil=>exact absurd hT hz
 | cons c r=>
  have hc:=ZaO ha hT
  obtain⟨r',hr'⟩:=Zc5(b:=10)(r:=r) hc
  obtain⟨r2,hr2⟩:∃ r2,shR 800(nuD l)=c::r2:=by
   unfold nuD shR
   rw[hT,hr']
   split
   ·exact⟨_,rfl⟩
   ·exact⟨_,rfl⟩
  have:=Zbp(b:=10)(.inl rfl)(r:=r2) hc
  rw[hr2];omega
def paV(x:Int×Int×Int):Value:=if x.2.2=0 then paW x.1 x.2.1 .nilIface else paW 0 0(erZ x.2.2)
theorem Zx8(m:Int)(mn:Bool):pzV m mn=paW(if mn=true then 9223372036854775808 else 0) 0 .nilIface:=by
 cases mn<;>rfl
theorem ZnZ(b:Int)(p:Bool)(v:List UInt8):(sc1 b p v).2.2.length≤v.length:=by
 induction v generalizing p with
 | nil=>exact Nat.le_refl _
 | cons c l ih=>
  unfold sc1
  split
  ·have:=ih true;rw[List.length_cons];omega
  ·split
   ·have:=ih p;rw[List.length_cons];dsimp only;omega
   ·exact Nat.le_refl _
theorem ZhJ{b:Int}(hb:b=10∨b=16){v:List UInt8}(hv:v.length≤10000)(hz:trZ(sc1 b false v).1≠[]){P:Int}(hP: -10000000≤P∧P≤10000000):Zzg b(ZhI b v)(nuK b v) P=true:=by
 obtain⟨h1,h2,h3⟩:=ZeS b false v
 have lT:=ZcY(sc1 b false v).1
 have lD:(nuD(sc1 b false v).1).length≤(trZ(sc1 b false v).1).length:=Zf6 _
 have ha:zi b(ZhI b v)=true:=Zhp(Zc0 h3)
 unfold Zzg
 rw[ha,Bool.true_and]
 unfold nuK ZhI
 exact decide_eq_true⟨hb,fun h10=>by subst h10;exact Zx7 h3 hz,by omega,by omega,by omega,hP.1,hP.2⟩
theorem Zoa{m:Int}{n:Bool}{b:Int}(hb:b=10∨b=16){v:List UInt8}(hv:v.length≤10000)(hz:trZ(sc1 b false v).1≠[]){P Q:Int}(hP:Zgy Q P):pnV m n b(ZhI b v)(nuK b v) Q=paW(if n=true then 9223372036854775808+rnP m n(dnA b(trZ(sc1 b false v).1)((sc1 b false v).2.1:Nat) P).1(dnA b(trZ(sc1 b false v).1)((sc1 b false v).2.1:Nat) P).2 else rnP m n(dnA b(trZ(sc1 b false v).1)((sc1 b false v).2.1:Nat) P).1(dnA b(trZ(sc1 b false v).1)((sc1 b false v).2.1:Nat) P).2)(rnF m n(dnA b(trZ(sc1 b false v).1)((sc1 b false v).2.1:Nat) P).1(dnA b(trZ(sc1 b false v).1)((sc1 b false v).2.1:Nat) P).2) .nilIface:=by
 obtain⟨h1,h2,h3⟩:=ZeS b false v
 obtain⟨r1,r2⟩:=Z7Y m n(Z0q b(ZhI b v)(nuK b v) Q)(noM b(ZhI b v)(nuK b v) Q)(noE b(ZhI b v)(nuK b v) Q)
 obtain⟨q1,q2⟩:=ZpK(m:=m)(n:=n) hb(l:=(sc1 b false v).1)(by omega) h3 hz(k:=(sc1 b false v).2.1) h2 hP
 unfold pnV
 rw[r1,r2]
 unfold ZhI nuK
 rw[q1,q2]
 rfl
theorem Z7Z(l:List UInt8)(m:Int)(h65:l.length≤10000)(h0:¬ (sgT l).2=Zzk)(h1:¬ (sgT l).2=Z4O)(h16:Zap [48,120](sgT l).2=false)(w:World):Calls Tryz.prog 9 #[bR l,.int .i64 m] w fun e w'=>e= .returned(paV(rdQ m(sgT l).1 10(sgT l).2))∧Zad w w':=by
 have hT:=Zk ZfU
 have lb:Z4(lB0 l(sgT l).1):=Za(zh(decide_eq_false h1))(Za(zh(decide_eq_false h0))(Za rfl(Z3(decide_eq_false(by omega)))))
 have l0:=Za h16 lb
 have hs:=Zhn l
 obtain⟨v,hv⟩:∃ v,v=(sgT l).2:=⟨_,rfl⟩
 have vl:v.length≤10000:=by rw[hv];omega
 have f1:=Z2y l m(sgT l).1
 have f5:=Z21 l m(sgT l).1
 have f5z:=Zx4 l m(sgT l).1
 have f3:=Z2z l m(sgT l).1
 have f4:=Z20 l m(sgT l).1
 have f6:=Z22 l m(sgT l).1
 have f6z:=Zx5 l m(sgT l).1
 obtain⟨mn,hmn⟩:∃ mn,mn=(sgT l).1:=⟨_,rfl⟩
 rw[← hv] at f1 f3 f4 f6 f6z f5 f5z
 rw[← hmn] at f1 f3 f4 f6 f6z l0 f5 f5z
 rw[← hv] at l0
 rw[← hv,← hmn]
 have hB:decide(((10:Int)=10∨(10:Int)=16)∧v.length≤100000)=true:=decide_eq_true⟨(.inl rfl),by omega⟩
 obtain⟨sb1,sb2,sb3⟩:=ZeS 10 false v
 have rl:(rst 10 v).length≤v.length:=ZnZ 10 false v
 have dl:decide(((rst 10 v).drop 1).length≤100000)=true:=decide_eq_true(by rw[List.length_drop];omega)
 by_cases hD:(sc1 10 false v).1=[]
 ·have e:rdQ m mn 10 v=(0,0,3):=by unfold rdQ scA;rw[if_pos hD,if_pos rfl]
  rw[e]
  exact Zc hT f1(Za(decide_eq_false(fun h=>h hD))(Za hB l0))(by rfl)(by rfl) w
 have l1:=Za(show decide((sc1 10 false v).1≠[])=true from decide_eq_true hD)(Za hB l0)
 have eS:scA 10 v=scE 10(rst 10 v):=by unfold scA;rw[if_neg hD];rfl
 obtain⟨k1,k2⟩:=Ziq(b:=10)(.inl rfl)(rst 10 v)
 rw[← eS] at k1 k2
 have eQz:(scA 10 v).2=true→trZ(sc1 10 false v).1=[]→rdQ m mn 10 v=(if mn=true then 9223372036854775808 else 0,0,0):=fun h2 h3=>by unfold rdQ;rw[if_neg(by rw[h2];decide),if_pos h3]
 have eQn:(scA 10 v).2=true→¬ trZ(sc1 10 false v).1=[]→rdQ m mn 10 v=(if mn=true then 9223372036854775808+rnP m mn(dnA 10(trZ(sc1 10 false v).1)((sc1 10 false v).2.1:Nat)(scA 10 v).1).1(dnA 10(trZ(sc1 10 false v).1)((sc1 10 false v).2.1:Nat)(scA 10 v).1).2 else rnP m mn(dnA 10(trZ(sc1 10 false v).1)((sc1 10 false v).2.1:Nat)(scA 10 v).1).1(dnA 10(trZ(sc1 10 false v).1)((sc1 10 false v).2.1:Nat)(scA 10 v).1).2,rnF m mn(dnA 10(trZ(sc1 10 false v).1)((sc1 10 false v).2.1:Nat)(scA 10 v).1).1(dnA 10(trZ(sc1 10 false v).1)((sc1 10 false v).2.1:Nat)(scA 10 v).1).2,0):=fun h2 h3=>by unfold rdQ;rw[if_neg(by rw[h2];decide),if_neg h3]
 have eQe:(scA 10 v).2=false→rdQ m mn 10 v=(0,0,3):=fun h2=>by unfold rdQ;rw[if_pos h2]
 have nz:=ZnY sb3
 by_cases hr:rst 10 v=[]
 ·have l2:=Za(show(Zb4(rst 10 v) [] true).1=true from zh(decide_eq_true hr)) l1
  have ek:pwK 10(rst 10 v)=true:=by unfold pwK;rw[if_pos hr];rfl
  have al:=k2 ek
  have ep:Go.Rd.pwP(rst 10 v)=0:=by unfold Go.Rd.pwP;rw[if_pos hr]
  rw[ep] at al
  rw[ek] at k1
  by_cases hz:trZ(sc1 10 false v).1=[]
  ·rw[eQz k1.symm hz]
   have f:=f5z
   rw[Zx8] at f
   exact Zc hT f(Za(decide_eq_true(by decide))(Za(decide_eq_true(nz.2 hz)) l2))(by rfl)(by rfl) w
  ·rw[eQn k1.symm hz]
   have f:=f5
   rw[Zoa(.inl rfl) vl hz al] at f
   exact Zc hT f(Za(decide_eq_true(zJ _))(Za(decide_eq_false(fun h=>hz(nz.1 h)))(Za(ZhJ(.inl rfl) vl hz⟨by decide,by decide⟩) l2)))(by rfl)(by rfl) w
 ·have l2:=Za(show(Zb4(rst 10 v) [] false).1=false from zh(decide_eq_false hr)) l1
  have ek:pwK 10(rst 10 v)=(Zap [101](rst 10 v) && wnK((rst 10 v).drop 1)):=by unfold pwK;rw[if_neg hr];rfl
  cases hm:Zap [101](rst 10 v) with
  | false=>
   rw[hm,Bool.false_and] at ek
   rw[ek] at k1
   rw[eQe k1.symm]
   exact Zc hT f3(Za hm l2)(by rfl)(by rfl) w
  | true=>
   have l3:=Za hm l2
   rw[hm,Bool.true_and] at ek
   cases hw:wnK((rst 10 v).drop 1) with
   | false=>
    rw[hw] at ek
    rw[ek] at k1
    rw[eQe k1.symm]
    exact Zc hT f4(Za hw(Za dl l3))(by rfl)(by rfl) w
   | true=>
    have l4:=Za hw(Za dl l3)
    rw[hw] at ek
    have al:=k2 ek
    have ep:Go.Rd.pwP(rst 10 v)=wnP((rst 10 v).drop 1):=by unfold Go.Rd.pwP;rw[if_neg hr]
    rw[ep] at al
    rw[ek] at k1
    by_cases hz:trZ(sc1 10 false v).1=[]
    ·rw[eQz k1.symm hz]
     have f:=f6z
     rw[Zx8] at f
     exact Zc hT f(Za(decide_eq_true(by decide))(Za(decide_eq_true(nz.2 hz)) l4))(by rfl)(by rfl) w
    ·rw[eQn k1.symm hz]
     have f:=f6
     rw[Zoa(.inl rfl) vl hz al] at f
     exact Zc hT f(Za(decide_eq_true(zJ _))(Za(decide_eq_false(fun h=>hz(nz.1 h)))(Za(ZhJ(.inl rfl) vl hz(ZsR _)) l4)))(by rfl)(by rfl) w
theorem Z8a(l:List UInt8)(m:Int)(h65:l.length≤10000)(h0:¬ (sgT l).2=Zzk)(h1:¬ (sgT l).2=Z4O)(h16:Zap [48,120](sgT l).2=true)(w:World):Calls Tryz.prog 9 #[bR l,.int .i64 m] w fun e w'=>e= .returned(paV(rdQ m(sgT l).1 16((sgT l).2.drop 2)))∧Zad w w':=by
 have hT:=Zk ZfU
 have lb:Z4(lB0 l(sgT l).1):=Za(zh(decide_eq_false h1))(Za(zh(decide_eq_false h0))(Za rfl(Z3(decide_eq_false(by omega)))))
 have l0:=Za h16 lb
 have hs:=Zhn l
 obtain⟨v,hv⟩:∃ v,v=((sgT l).2.drop 2):=⟨_,rfl⟩
 have vl:v.length≤10000:=by rw[hv];rw[List.length_drop];omega
 have f1:=Z23 l m(sgT l).1
 have f2:=Z24 l m(sgT l).1
 have f3:=Z25 l m(sgT l).1
 have f4:=Z26 l m(sgT l).1
 have f6:=Z27 l m(sgT l).1
 have f6z:=Zx6 l m(sgT l).1
 obtain⟨mn,hmn⟩:∃ mn,mn=(sgT l).1:=⟨_,rfl⟩
 rw[← hv] at f1 f3 f4 f6 f6z f2
 rw[← hmn] at f1 f3 f4 f6 f6z l0 f2
 rw[← hv,← hmn]
 have hB:decide(((16:Int)=10∨(16:Int)=16)∧v.length≤100000)=true:=decide_eq_true⟨(.inr rfl),by omega⟩
 obtain⟨sb1,sb2,sb3⟩:=ZeS 16 false v
 have rl:(rst 16 v).length≤v.length:=ZnZ 16 false v
 have dl:decide(((rst 16 v).drop 1).length≤100000)=true:=decide_eq_true(by rw[List.length_drop];omega)
 by_cases hD:(sc1 16 false v).1=[]
 ·have e:rdQ m mn 16 v=(0,0,3):=by unfold rdQ scA;rw[if_pos hD,if_pos rfl]
  rw[e]
  exact Zc hT f1(Za(decide_eq_false(fun h=>h hD))(Za hB l0))(by rfl)(by rfl) w
 have l1:=Za(show decide((sc1 16 false v).1≠[])=true from decide_eq_true hD)(Za hB l0)
 have eS:scA 16 v=scE 16(rst 16 v):=by unfold scA;rw[if_neg hD];rfl
 obtain⟨k1,k2⟩:=Ziq(b:=16)(.inr rfl)(rst 16 v)
 rw[← eS] at k1 k2
 have eQz:(scA 16 v).2=true→trZ(sc1 16 false v).1=[]→rdQ m mn 16 v=(if mn=true then 9223372036854775808 else 0,0,0):=fun h2 h3=>by unfold rdQ;rw[if_neg(by rw[h2];decide),if_pos h3]
 have eQn:(scA 16 v).2=true→¬ trZ(sc1 16 false v).1=[]→rdQ m mn 16 v=(if mn=true then 9223372036854775808+rnP m mn(dnA 16(trZ(sc1 16 false v).1)((sc1 16 false v).2.1:Nat)(scA 16 v).1).1(dnA 16(trZ(sc1 16 false v).1)((sc1 16 false v).2.1:Nat)(scA 16 v).1).2 else rnP m mn(dnA 16(trZ(sc1 16 false v).1)((sc1 16 false v).2.1:Nat)(scA 16 v).1).1(dnA 16(trZ(sc1 16 false v).1)((sc1 16 false v).2.1:Nat)(scA 16 v).1).2,rnF m mn(dnA 16(trZ(sc1 16 false v).1)((sc1 16 false v).2.1:Nat)(scA 16 v).1).1(dnA 16(trZ(sc1 16 false v).1)((sc1 16 false v).2.1:Nat)(scA 16 v).1).2,0):=fun h2 h3=>by unfold rdQ;rw[if_neg(by rw[h2];decide),if_neg h3]
 have eQe:(scA 16 v).2=false→rdQ m mn 16 v=(0,0,3):=fun h2=>by unfold rdQ;rw[if_pos h2]
 have nz:=ZnY sb3
 by_cases hr:rst 16 v=[]
 ·have l2:=Za(show(Zb4(rst 16 v) [] true).1=true from zh(decide_eq_true hr)) l1
  have ek:pwK 16(rst 16 v)=false:=by unfold pwK;rw[if_pos hr];rfl
  rw[ek] at k1
  rw[eQe k1.symm]
  exact Zc hT f2 l2(by rfl)(by rfl) w
 ·have l2:=Za(show(Zb4(rst 16 v) [] false).1=false from zh(decide_eq_false hr)) l1
  have ek:pwK 16(rst 16 v)=(Zap [112](rst 16 v) && wnK((rst 16 v).drop 1)):=by unfold pwK;rw[if_neg hr];rfl
  cases hm:Zap [112](rst 16 v) with
  | false=>
   rw[hm,Bool.false_and] at ek
   rw[ek] at k1
   rw[eQe k1.symm]
   exact Zc hT f3(Za hm l2)(by rfl)(by rfl) w
  | true=>
   have l3:=Za hm l2
   rw[hm,Bool.true_and] at ek
   cases hw:wnK((rst 16 v).drop 1) with
   | false=>
    rw[hw] at ek
    rw[ek] at k1
    rw[eQe k1.symm]
    exact Zc hT f4(Za hw(Za dl l3))(by rfl)(by rfl) w
   | true=>
    have l4:=Za hw(Za dl l3)
    rw[hw] at ek
    have al:=k2 ek
    have ep:Go.Rd.pwP(rst 16 v)=wnP((rst 16 v).drop 1):=by unfold Go.Rd.pwP;rw[if_neg hr]
    rw[ep] at al
    rw[ek] at k1
    by_cases hz:trZ(sc1 16 false v).1=[]
    ·rw[eQz k1.symm hz]
     have f:=f6z
     rw[Zx8] at f
     exact Zc hT f(Za(decide_eq_true(by decide))(Za(decide_eq_true(nz.2 hz)) l4))(by rfl)(by rfl) w
    ·rw[eQn k1.symm hz]
     have f:=f6
     rw[Zoa(.inr rfl) vl hz al] at f
     exact Zc hT f(Za(decide_eq_true(zJ _))(Za(decide_eq_false(fun h=>hz(nz.1 h)))(Za(ZhJ(.inr rfl) vl hz(ZsR _)) l4)))(by rfl)(by rfl) w
theorem Zjj(l:List UInt8)(m:Int)(ho:ZrN l=true)(w:World):Calls Tryz.prog 9 #[bR l,.int .i64 m] w fun e w'=>e= .returned(paV(rdP m l))∧Zad w w':=by
 have hT:=Zk ZfU
 have ho:=of_decide_eq_true ho
 unfold rdP
 by_cases h65:65536<l.length
 ·rw[if_pos h65]
  exact Zc hT(ZrK l m)(Z3(decide_eq_true(by omega)))(by rfl)(by rfl) w
 have h6:decide(((l.length:Nat):Int)>65536)=false:=decide_eq_false(by omega)
 rw[if_neg h65]
 by_cases h1:(sgT l).2=[110,97,110]
 ·rw[if_pos h1]
  exact Zc hT(Zx3 l m(sgT l).1)(Za(zh(decide_eq_true h1))(Za(zh(decide_eq_false(by rw[h1];decide)))(Za rfl(Z3 h6))))(by rfl)(by rfl) w
 rw[if_neg h1]
 by_cases h2:(sgT l).2=[105,110,102]
 ·rw[if_pos h2]
  cases hn:(sgT l).1 with
  | true=>exact Zc hT(ZrL l m)(Za(zh(decide_eq_true h2))(Za hn(Z3 h6)))(by rfl)(by rfl) w
  | false=>exact Zc hT(ZrM l m)(Za(zh(decide_eq_true h2))(Za hn(Z3 h6)))(by rfl)(by rfl) w
 rw[if_neg h2,Zuz]
 cases h16:Zap [48,120](sgT l).2 with
 | true=>
  rw[if_pos rfl]
  exact Z8a l m(by omega) h2 h1 h16 w
 | false=>
  rw[if_neg(by decide)]
  exact Z7Z l m(by omega) h2 h1 h16 w
def gPR:Ans:=fun vals s=>
 match vals,s with
 | [.string a,.int .i64 m],.inr(.inr(.inr(.inl true)))::s'=>some(paW(rdP m a.data.toList).1(rdP m a.data.toList).2.1 .nilIface,s',[(decide((rdP m a.data.toList).2.2=0),true),(ZrN a.data.toList,true)])
 | [.string a,.int .i64 m],.inr(.inr(.inr(.inl false)))::s'=>some(paW 0 0(erZ(rdP m a.data.toList).2.2),s',[(decide((rdP m a.data.toList).2.2=0),false),(ZrN a.data.toList,true)])
 | _,_=>none
theorem Z28:ZT 9 gPR:=by
 intro vals s v s' lg h hl w
 unfold gPR at h
 split at h
 ·rename_i a m s2
  cases h
  have h1:=of_decide_eq_true(hl _ List.mem_cons_self)
  have h2:ZrN a.data.toList=true:=hl _(List.mem_cons_of_mem _(List.mem_singleton.2 rfl))
  have:=Zjj a.data.toList m h2 w
  unfold paV at this
  rw[if_pos h1] at this
  exact this
 ·rename_i a m s2
  cases h
  have h1:=of_decide_eq_false(hl _ List.mem_cons_self)
  have h2:ZrN a.data.toList=true:=hl _(List.mem_cons_of_mem _(List.mem_singleton.2 rfl))
  have:=Zjj a.data.toList m h2 w
  unfold paV at this
  rw[if_neg h1] at this
  exact this
 ·cases h
end Go.Proofs.YtjlponbdflkbjaaGreatDoor
namespace Go.Proofs.YtjlponbdflkbjaaGreatDoor
open Go.KRun Go.Nt Go.Rd
set_option maxRecDepth 100000
def dlL(F:Func):Code:=cIn(cIn(sP F 2))
def dlF(n:Int)(s:List UInt8):List Value:=[.int .u64 n,undef,bR [],bR s]
theorem ZrO:Tryz.f12.body=some(za [sP Tryz.f12 0,sP Tryz.f12 1](.seq(.block 0(.loop(dlL Tryz.f12)))(sK Tryz.f12 3))):=by kernel_rfl
theorem Zx9(n:Int):Zg(evL(Zi Tryz.prog Zf Zo true) 100 [sP Tryz.f12 0,sP Tryz.f12 1]([.int .u64 n]++List.replicate 20 undef,⟨0,[]⟩,[])⟨[],[],[]⟩) 4 17 none(dlF n [])⟨0,[]⟩ []:=⟨by kernel_rfl,by kernel_rfl,by kernel_rfl⟩
theorem Z8b(n:Int)(s:List UInt8)(g:Nat→Value):Zg(evC(Zi Tryz.prog Zf Zo true) 100 false(dlL Tryz.f12)(dlF n s++tl 17 g,⟨0,[]⟩,[cmp true,cmp false,cmp false,sam true,sam true])⟨[],[],[]⟩) 4 17 none(dlF(IntKind.u64.wrap(n.tdiv 10))((((([48,49,50,51,52,53,54,55,56,57]:List UInt8).drop(n.tmod 10).toNat).take((IntKind.u64.wrap(n.tmod 10+1)).toNat-(n.tmod 10).toNat)))++s))⟨0,[]⟩ [(decide((((([48,49,50,51,52,53,54,55,56,57]:List UInt8).drop(n.tmod 10).toNat).take((IntKind.u64.wrap(n.tmod 10+1)).toNat-(n.tmod 10).toNat))).length+s.length≤9223372036854775807),true),(decide(0≤n.tmod 10∧n.tmod 10≤IntKind.u64.wrap(n.tmod 10+1)∧IntKind.u64.wrap(n.tmod 10+1)≤((10:Nat):Int)),true),(decide((10:Int)=0),false),(decide((10:Int)=0),false),(decide(n>0),true)]:=⟨by kernel_rfl,by kernel_rfl,by kernel_rfl⟩
theorem Z8c(n:Int)(s:List UInt8)(g:Nat→Value):Zg(evC(Zi Tryz.prog Zf Zo true) 100 false(dlL Tryz.f12)(dlF n s++tl 17 g,⟨0,[]⟩,[cmp false,sam true,cmp false,cmp false,sam true,sam true])⟨[],[],[]⟩) 4 17 none(dlF(IntKind.u64.wrap(n.tdiv 10))((((([48,49,50,51,52,53,54,55,56,57]:List UInt8).drop(n.tmod 10).toNat).take((IntKind.u64.wrap(n.tmod 10+1)).toNat-(n.tmod 10).toNat)))++s))⟨0,[]⟩ [(decide((((([48,49,50,51,52,53,54,55,56,57]:List UInt8).drop(n.tmod 10).toNat).take((IntKind.u64.wrap(n.tmod 10+1)).toNat-(n.tmod 10).toNat))).length+s.length≤9223372036854775807),true),(decide(0≤n.tmod 10∧n.tmod 10≤IntKind.u64.wrap(n.tmod 10+1)∧IntKind.u64.wrap(n.tmod 10+1)≤((10:Nat):Int)),true),(decide((10:Int)=0),false),(decide((10:Int)=0),false),((⟨⟨s⟩⟩:ByteArray)==⟨⟨[]⟩⟩,true),(decide(n>0),false)]:=⟨by kernel_rfl,by kernel_rfl,by kernel_rfl⟩
theorem Z8d(n:Int)(s:List UInt8)(g:Nat→Value):Zg(evC(Zi Tryz.prog Zf Zo true) 100 false(dlL Tryz.f12)(dlF n s++tl 17 g,⟨0,[]⟩,[cmp false,sam false])⟨[],[],[]⟩) 4 17(some(some 0))(dlF n s)⟨0,[]⟩ [((⟨⟨s⟩⟩:ByteArray)==⟨⟨[]⟩⟩,false),(decide(n>0),false)]:=⟨by kernel_rfl,by kernel_rfl,by kernel_rfl⟩
theorem Z8e(n:Int)(s:List UInt8)(g:Nat→Value):Zg(evC(Zi Tryz.prog Zf Zo true) 100 false(sK Tryz.f12 3)(dlF n s++tl 17 g,⟨0,[]⟩,[])⟨[],[],[]⟩) 3 18(some none) [.int .u64 n,undef,bR s]⟨0,[]⟩ []:=⟨by kernel_rfl,by kernel_rfl,by kernel_rfl⟩
def dlS(N:Nat)(c:Nat)(s:List UInt8)(y:Lf):Prop:=∃ (f:Nat)(g:Nat→Value),c<10^f∧c<18446744073709551616∧s.length+f≤20∧1≤f+s.length∧(s=[]→1≤f)∧ZfZ 20 N=(if c=0∧s≠[] then [] else ZfZ f c)++s∧y.1=dlF c s++tl 17 g∧y.2.1=⟨0,[]⟩
theorem ZrP{N:Nat}(r:Nat)(y:Lf)(h:∃ c s,r=2*c+(if s=[] then 1 else 0)∧dlS N c s y):
  Runs(Zi Tryz.prog Zf Zo true)(dlL Tryz.f12) y fun e z=>match e with | none=>∃ r',r'<r∧∃ c s,r'=2*c+(if s=[] then 1 else 0)∧dlS N c s z | some none=>False | some(some id')=>id'=0∧dlS N 0(ZfZ 20 N) z∧ZfZ 20 N≠[]:=by
 have hT:=Zk Zd
 obtain⟨c,s,hr,f,g,hc,hu,hf,hf1,hf2,hS,ht,hh⟩:=h
 obtain⟨t,h',sc⟩:=y
 simp only at ht hh
 subst ht hh
 by_cases hx:c=0∧s≠[]
 ·have es:ZfZ 20 N=s:=by rw[hS,if_pos hx];rfl
  refine(Zb(s0:=sc) hT(Z8d(c:Nat) s g)(Za(by rw[Zc2];exact decide_eq_false hx.2)(Z3(decide_eq_false(by omega))))).mono fun e z he=> ?_
  obtain⟨rfl,⟨g',z1⟩,z2⟩:=he
  rw[hx.1] at z1
  refine⟨rfl,⟨f,g',Nat.pow_pos(by omega),by omega,by rw[es];exact hf,by rw[es];exact hf1,by rw[es];exact hf2,?_,by rw[es];exact z1,z2⟩,by rw[es];exact hx.2⟩
  rw[es,if_pos⟨rfl,hx.2⟩]
  rfl
 ·rw[if_neg hx] at hS
  have et:((c:Nat):Int).tmod 10=((c % 10:Nat):Int):=by rw[Int.tmod_eq_emod_of_nonneg(by omega)];omega
  have ed:IntKind.u64.wrap(((c:Nat):Int).tdiv 10)=((c/10:Nat):Int):=by
   rw[Int.tdiv_eq_ediv_of_nonneg(by omega)]
   simp [IntKind.wrap,IntKind.bits,IntKind.signed]
   omega
  have ew:IntKind.u64.wrap(((c % 10:Nat):Int)+1)=((c % 10+1:Nat):Int):=by
   simp [IntKind.wrap,IntKind.bits,IntKind.signed]
   omega
  have hm:c % 10<10:=Nat.mod_lt _(by omega)
  have ep:((([48,49,50,51,52,53,54,55,56,57]:List UInt8).drop((c % 10:Nat):Int).toNat).take(((c % 10+1:Nat):Int).toNat-((c % 10:Nat):Int).toNat))=[chD(c % 10)]:=by
   rw[Int.toNat_natCast,Int.toNat_natCast,show c % 10+1-c % 10=1 by omega]
   exact Zin hm
  obtain⟨f',rfl⟩:∃ f',f=f'+1:=by
   cases f with
   | zero=>
    exfalso
    have h0:c=0:=by simpa using hc
    exact hx⟨h0,fun h=>by have:=hf2 h;omega⟩
   | succ f=>exact⟨f,rfl⟩
  have fin:∀ z:Lf,((none:Ex)=none∧(∃ g',z.1=dlF((c/10:Nat):Int)([chD(c % 10)]++s)++tl 17 g')∧z.2.1=⟨0,[]⟩)→∃ r',r'<r∧∃ c s,r'=2*c+(if s=[] then 1 else 0)∧dlS N c s z:=fun z hz=>by
   obtain⟨_,⟨g',z1⟩,z2⟩:=hz
   refine⟨2*(c/10),?_,c/10,chD(c % 10)::s,by rw[if_neg(by simp),Nat.add_zero],f',g',by rw[Nat.pow_succ] at hc;omega,by omega,by rw[List.length_cons];omega,by rw[List.length_cons];omega,fun h=>by simp at h,?_,z1,z2⟩
   ·rw[hr]
    by_cases h0:c=0
    ·have:s=[]:=Decidable.of_not_not fun h=>hx⟨h0,h⟩
     rw[if_pos this]
     omega
    ·omega
   ·rw[hS,ZfZ]
    by_cases h1:c<10
    ·rw[if_pos h1,if_pos⟨by omega,by simp⟩,Nat.mod_eq_of_lt h1]
     rfl
    ·rw[if_neg h1,if_neg(fun h=>by have:=h.1;omega)]
     simp
  have hs19:s.length≤20:=by omega
  by_cases h0:0<c
  ·have hg:=Z8b(c:Nat) s g
   rw[et,ed,ew,ep] at hg
   refine(Zb(s0:=sc) hT hg(Za(decide_eq_true(by rw[List.length_singleton];omega))(Za(decide_eq_true⟨by omega,by omega,by omega⟩)(Za(by decide)(Za(by decide)(Z3(decide_eq_true(by omega)))))))).mono fun e z he=> ?_
   obtain⟨rfl,he⟩:=he
   exact fin z⟨rfl,he⟩
  ·have hs0:s=[]:=Decidable.of_not_not fun h=>hx⟨by omega,h⟩
   have hg:=Z8c(c:Nat) s g
   rw[et,ed,ew,ep] at hg
   refine(Zb(s0:=sc) hT hg(Za(decide_eq_true(by rw[List.length_singleton];omega))(Za(decide_eq_true⟨by omega,by omega,by omega⟩)(Za(by decide)(Za(by decide)(Za(by rw[Zc2];exact decide_eq_true hs0)(Z3(decide_eq_false(by omega))))))))).mono fun e z he=> ?_
   obtain⟨rfl,he⟩:=he
   exact fin z⟨rfl,he⟩
theorem Zki(n:Int)(hn:0≤n∧n<18446744073709551616)(w:World):Calls Tryz.prog 12 #[.int .u64 n] w fun r w'=>r= .returned(bR(dcL n.toNat))∧Zad w w':=by
 have hT:=Zk Zd
 refine ZP(T:=(Zi Tryz.prog Zf Zo true)) Tryz.func12 ZrO(by rfl)(by rfl) ?_ w
 obtain⟨N,rfl⟩:∃ N:Nat,n=(N:Int):=⟨n.toNat,by omega⟩
 rw[Int.toNat_natCast]
 refine Zx hT(Zx9(N:Nat)) ZaZ fun g=> ?_
 refine Runs.seq(P1:=fun e y=>match e with | none=>dlS N 0(ZfZ 20 N) y∧ZfZ 20 N≠[] | some none=>False | some(some _)=>False)(Runs.forLoop(R:=fun _=>False)(P:=fun y=>dlS N 0(ZfZ 20 N) y∧ZfZ 20 N≠[])(fun r y=>∃ c s,r=2*c+(if s=[] then 1 else 0)∧dlS N c s y) ZrP(n:=2*N+1)⟨N,[],rfl,20,g,ZzV(by omega),by omega,by simp,by omega,by omega,by rw[if_neg(by simp),List.append_nil],rfl,rfl⟩) ?_(fun e y he=>by match e,he with | none,he=>exact he.elim | some _,he=>exact he.elim)
 rintro⟨t,hh,sc⟩⟨⟨f,g',_,_,_,_,_,_,e1,e2⟩,_⟩
 simp only at e1 e2
 subst e1 e2
 refine(Zb(s0:=sc) hT(Z8e((0:Nat):Int)(ZfZ 20 N) g') ZaZ).mono fun e z he=> ?_
 obtain⟨rfl,⟨g2,z1⟩,z2⟩:=he
 exact⟨.inr rfl,by rw[z1,z2];rfl⟩
def Z8f:Ans:=fun vals s=>
 match vals with
 | [.int .u64 n]=>some(bR(dcL n.toNat),s,[(decide(0≤n∧n<18446744073709551616),true)])
 | _=>none
theorem ZxA:ZT 12 Z8f:=by
 intro vals s v s' lg h hl w
 unfold Z8f at h
 split at h
 ·cases h
  exact Zki _(of_decide_eq_true(hl _(List.mem_singleton.2 rfl))) w
 ·cases h
end Go.Proofs.YtjlponbdflkbjaaGreatDoor
namespace Go.Rd
open Go.Rn
theorem Zt7{A:List UInt8}(h:zi 10 A=true):∀ d∈A,d≠120:=by
 intro d hd h0
 unfold zi at h
 rw[List.all_eq_true] at h
 have:=ZaP(of_decide_eq_true(h d hd))
 rw[h0] at this
 exact absurd this.2(by decide)
theorem Z29{A B:List UInt8}(hA:∀ d∈A,d≠120)(hB:∀ d∈B,d≠120):∀ d∈A++B,d≠120:=fun d hd=>(List.mem_append.1 hd).elim(hA d)(hB d)
theorem ZxB{c:UInt8}{B:List UInt8}(hc:c≠120)(hB:∀ d∈B,d≠120):∀ d∈c::B,d≠120:=fun d hd=>(List.mem_cons.1 hd).elim(fun h=>by rw[h];exact hc)(hB d)
theorem Z2A{b:Int}{v D:List UInt8}{k:Nat}{r:List UInt8}(h:sc1 b false v=(D,k,r))(hD:D≠[]):scA b v=scE b r:=by
 unfold scA
 rw[h]
 dsimp only
 rw[if_neg hD]
theorem Z8g(m:Int)(n:Bool){A B:List UInt8}(hA:zi 10 A=true)(hB:zi 10 B=true)(h0:A≠[]):rdQ m n 10(A++46::B)=rdN m n(nmB 10(A++B))(0-(B.length:Nat)):=by
 have e2:sc1 10 true B=(B,B.length,[]):=by
  have:=ZlB hB true []
  rw[List.append_nil,Zuw] at this
  rw[this]
  simp
 have e:sc1 10 false(A++46::B)=(A++B,B.length,[]):=by
  rw[ZlB hA,ZzW,e2]
  simp
 have ea:=Z2A e(fun h=>h0(List.append_eq_nil_iff.1 h).1)
 have er:scE 10 []=(0,true):=rfl
 rw[er] at ea
 rw[Zux(by rw[ea]),ea,e]
theorem Zkj(m:Int){A t:List UInt8}(hA:zi 10 A=true)(h0:A≠[])(ht:∀ d∈t,d≠120)(hl:(A++t).length≤65000):rdP m(A++t)=rdQ m false 10(A++t)∧rdP m(45::(A++t))=rdQ m true 10(A++t):=by
 cases A with
 | nil=>exact absurd rfl h0
 | cons c A=>
  have hn:=Zt7 hA
  unfold zi at hA
  rw[List.all_cons,Bool.and_eq_true] at hA
  have hc:=ZaP(of_decide_eq_true hA.1)
  have hr:∀ d∈A++t,d≠120:=Z29(fun d hd=>hn d(List.mem_cons_of_mem _ hd)) ht
  rw[List.cons_append] at hl ⊢
  exact⟨Zip(by omega)(ZlE hc) hc hr,Zip(by rw[List.length_cons];omega)(ZlF _) hc hr⟩
theorem Zob(n:Nat):zi 10(dcL n)=true:=Zpx 20 n 10
theorem Zoc(n:Nat):(dcL n).length≤20:=Zpy 20 n
theorem ZxC(m:Int)(N k d:Nat)(hk:k≤1000)(hd:d<10):(rdP m(dcL N++46::(List.replicate k 48++[chD d]))).2.2=0:=by
 have h1:zi 10 [chD d]=true:=by
  unfold zi
  rw[List.all_cons,ZlA hd,decide_eq_true(by omega)]
  rfl
 have hB:zi 10(List.replicate k 48++[chD d])=true:=Zio(ZlD 10 k) h1
 have hl:=Zoc N
 rw[(Zkj m(Zob N)(ZsP N)(ZxB(by decide)(Zt7 hB))(by rw[List.length_append,List.length_cons,List.length_append,List.length_replicate,List.length_singleton];omega)).1,Z8g m false(Zob N) hB(ZsP N)]
 exact Zuy _ _ _ _
end Go.Rd
namespace Go.Proofs.YtjlponbdflkbjaaGreatDoor
open Go.KRun Go.Nt Go.Rd Go.Rn
set_option maxRecDepth 100000
def ZxD:Con:=alt 9 gPR(alt 12 Z8f Zo)
theorem Zjk:ConOk ZxD:=ZA Tryz.func9 rfl Z28(ZA Tryz.func12 rfl ZxA Zd)
def Z2B:List UInt8:=[48,46,49]
def Z2C:List UInt8:=[48,120,49,112,45,49,48,55,52]
theorem Z2D:Z7(Zn(Zi Tryz.prog Zf ZxD true) 300 8 [] [cmp true,cmp true,cmp true,cmp true,cmp true,cmp true])(.bool true) [((rdP 4 Z2C).2.1==0,true),((rdP 4 Z2C).1==1,true),((rdP 0 Z2B).2.1==16,true),((rdP 0 Z2B).1==4591870180066957722,true),(decide((rdP 4 Z2C).2.2=0),true),(ZrN Z2C,true),(decide((rdP 0 Z2B).2.2=0),true),(ZrN Z2B,true)]:=⟨by kernel_rfl,by kernel_rfl,by kernel_rfl,by kernel_rfl⟩
theorem Zev:rdP 0 Z2B=(4591870180066957722,16,0):=by kernel_rfl
theorem Zew:rdP 4 Z2C=(1,0,0):=by kernel_rfl
def ZhK:Ans:=fun vals s=>match vals with | []=>some(.bool true,s,[]) | _=>none
theorem Zkk:ZT 8 ZhK:=by
 intro vals s v s' lg h hl w
 unfold ZhK at h
 split at h
 ·cases h
  exact Zc(Zk Zjk) Z2D(Za(by rw[Zew];rfl)(Za(by rw[Zew];rfl)(Za(by rw[Zev];rfl)(Za(by rw[Zev];rfl)(Za(by rw[Zew];rfl)(Za(by rfl)(Za(by rw[Zev];rfl)(Z3(by rfl)))))))))(by rfl)(by rfl) w
 ·cases h
def Z2E:Con:=alt 8 ZhK ZxD
theorem ZrQ:ConOk Z2E:=ZA Tryz.func8 rfl Zkk Zjk
def ofV(a b:Int):Value:= .agg #[.int .i64 a,.int .i64 b]
def rnM(a b:Int):Hp:=⟨1,[([.int .i64 a,.int .i64 b],34)]⟩
def dcP(d:Int):List UInt8:=(([48,49,50,51,52,53,54,55,56,57]:List UInt8).drop(d.tmod 10).toNat).take((IntKind.u64.wrap(d.tmod 10+1)).toNat-(d.tmod 10).toNat)
theorem Z2F{d:Int}(h:0≤d):dcP d=[chD(d.toNat % 10)]:=by
 have e:d.tmod 10=((d.toNat % 10:Nat):Int):=by rw[Int.tmod_eq_emod_of_nonneg h];omega
 have ew:IntKind.u64.wrap(((d.toNat % 10:Nat):Int)+1)=((d.toNat % 10+1:Nat):Int):=by
  simp [IntKind.wrap,IntKind.bits,IntKind.signed]
  omega
 unfold dcP
 rw[e,ew,Int.toNat_natCast,Int.toNat_natCast,show d.toNat % 10+1-d.toNat % 10=1 by omega]
 exact Zin(Nat.mod_lt _(by omega))
theorem ZxE(m:Int)(n:Bool)(T:Nat)(E:Int):0≤rnF m n T E∧rnF m n T E≤24:=by
 unfold rnF
 split
 ·exact⟨by decide,by decide⟩
 split
 ·exact⟨by decide,by decide⟩
 split
 ·split
  ·exact⟨by decide,by decide⟩
  ·exact⟨by decide,by decide⟩
 ·exact⟨by decide,by decide⟩
theorem Zod{n:Int}(h:0≤n)(h1:n<18446744073709551616):IntKind.u64.wrap n=n:=by
 simp [IntKind.wrap,IntKind.bits,IntKind.signed]
 omega
theorem Z2G(m:Int)(l:List UInt8):0≤(rdP m l).2.1∧(rdP m l).2.1≤24:=by
 unfold rdP
 split
 ·exact⟨by decide,by decide⟩
 split
 ·exact⟨by decide,by decide⟩
 split
 ·exact⟨show(0:Int)≤0 by decide,show(0:Int)≤24 by decide⟩
 unfold rdQ
 split
 ·exact⟨by decide,by decide⟩
 split
 ·exact⟨show(0:Int)≤0 by decide,show(0:Int)≤24 by decide⟩
 ·exact ZxE _ _ _ _
end Go.Proofs.YtjlponbdflkbjaaGreatDoor
