/-
  ConNB, ConND, NumTx, TxC, ConV4, ConV5
-/
import Derived.Test.YtjlponbdflkbjaaGreatDoorG10
import Derived.Laws.MathBits
import Derived.Test.YtjlponbdflkbjaaGreatDoorG12
import Derived.Test.YtjlponbdflkbjaaGreatDoorG05
import Derived.Test.YtjlponbdflkbjaaGreatDoorG08
namespace Go.Proofs.YtjlponbdflkbjaaGreatDoor.Na
open Go.KRun Go.Nt
set_option maxRecDepth 100000
def ZaD:List UInt8:=(List.range 256).map fun i=>UInt8.ofNat(bitLen i)
def Zee(z:Int):Int:=((ZaD.getD(IntKind.u8.wrap z).toNat 0).toNat:Int)
def lt8(z:Int):Bool×Bool:=(decide(0≤IntKind.u8.wrap z∧(IntKind.u8.wrap z).toNat<ZaD.length),true)
def shd(z:Int)(k:Nat):Int:=z.fdiv(2^k)
def geq(z k:Int)(d:Bool):Bool×Bool:=(decide(z≥k),d)
def ZfA(m z:Int):Value:= .int .i64(IntKind.i64.wrap(m+IntKind.i64.wrap(Zee z)))
def nz:Bool×Bool:=(false,false)
theorem Z0S(u:Int):Z7(Zn(Zi Tryz.prog Zf Zo true) 3000 118 [uu u] [tst false,tst false])(ZfA 0 u) [lt8 u,geq u 256 false,geq u 65536 false]:=⟨by kernel_rfl,by kernel_rfl,by kernel_rfl,by kernel_rfl⟩
theorem Z0T(u:Int):Z7(Zn(Zi Tryz.prog Zf Zo true) 3000 118 [uu u] [tst false,tst true])(ZfA 8(shd u 8)) [lt8(shd u 8),nz,geq u 256 true,geq u 65536 false]:=⟨by kernel_rfl,by kernel_rfl,by kernel_rfl,by kernel_rfl⟩
theorem Z0U(u:Int):Z7(Zn(Zi Tryz.prog Zf Zo true) 3000 118 [uu u] [tst true,tst false])(ZfA 16(shd u 16)) [lt8(shd u 16),geq(shd u 16) 256 false,nz,geq u 65536 true]:=⟨by kernel_rfl,by kernel_rfl,by kernel_rfl,by kernel_rfl⟩
theorem Z0V(u:Int):Z7(Zn(Zi Tryz.prog Zf Zo true) 3000 118 [uu u] [tst true,tst true])(ZfA 24(shd(shd u 16) 8)) [lt8(shd(shd u 16) 8),nz,geq(shd u 16) 256 true,nz,geq u 65536 true]:=⟨by kernel_rfl,by kernel_rfl,by kernel_rfl,by kernel_rfl⟩
theorem Zde:ZaD.length=256:=by unfold ZaD;rw[List.length_map,List.length_range]
theorem Zdf(b:Nat)(h:b<256):(ZaD.getD b 0).toNat=bitLen b:=by
 have h1:ZaD.getD b 0=UInt8.ofNat(bitLen b):=by
  unfold ZaD
  rw[List.getD,List.getElem?_map,List.getElem?_range h]
  rfl
 have h2:=bitLen_le8 b h
 rw[h1,UInt8.toNat_ofNat']
 omega
theorem Zhw{z:Int}(h0:0≤z)(h1:z<256):IntKind.u8.wrap z=z:=by
 simp [IntKind.wrap,IntKind.bits,IntKind.signed];omega
theorem zX{m:Int}{Z:Nat}(hm:0≤m)(hm':m≤56)(h1:Z<256):ZfA m(Z:Int)= .int .i64(m+bitLen Z)∧(lt8(Z:Int)).1=(lt8(Z:Int)).2:=by
 have hb:=bitLen_le8 Z h1
 have e:=Zhw(z:=(Z:Int))(by omega)(by omega)
 refine⟨?_,?_⟩
 ·unfold ZfA Zee
  rw[e,Int.toNat_natCast,Zdf Z h1,Zw(n:=((bitLen Z:Nat):Int))(by omega)(by omega),Zw(by omega)(by omega)]
 ·unfold lt8
  rw[e,Int.toNat_natCast]
  rw[Zde]
  exact decide_eq_true(And.intro(by omega) h1)
theorem Zeg(Z k:Nat):shd(Z:Int) k=((Z/2^k:Nat):Int):=by
 unfold shd
 rw[Int.fdiv_eq_ediv_of_nonneg _(Int.le_of_lt(Int.pow_pos(by omega)))]
 simp
theorem ZmB{z k:Int}(h:k≤z):(geq z k true).1=(geq z k true).2:=decide_eq_true h
theorem ZfF{z k:Int}(h:z<k):(geq z k false).1=(geq z k false).2:=decide_eq_false(by omega)
theorem Zbc:nz.1=nz.2:=rfl
theorem ZaE(x b:Nat)(h:2^b≤x):bitLen x=b+bitLen(x/2^b):=bitLen_shift x b(by
 have:0<x/2^b:=Nat.div_pos h(Nat.two_pow_pos b)
 omega)
def ZmC(u:Int):Value:= .int .i64(bitLen u.toNat:Nat)
theorem Zh0(u:Int)(h0:0≤u)(h1:u<4294967296)(w:World):Calls Tryz.prog 118 #[uu u] w fun e w'=>e= .returned(ZmC u)∧Zad w w':=by
 obtain⟨U,rfl⟩:=Int.eq_ofNat_of_zero_le h0
 unfold ZmC
 rw[Int.toNat_natCast]
 have p8:(2:Nat)^8=256:=rfl
 have p16:(2:Nat)^16=65536:=rfl
 have step:∀ {v:Value}{s:List Dec}{cs:Log},Z7(Zn(Zi Tryz.prog Zf Zo true) 3000 118 [uu(U:Int)] s) v cs→Z4 cs→v= .int .i64(bitLen U:Nat)→Calls Tryz.prog 118 #[uu(U:Int)] w fun e w'=>e= .returned(.int .i64(bitLen U:Nat))∧Zad w w':=
  fun{v s cs} hf hc hv=>by subst hv;exact Zc(Zk Zd) hf hc(by rfl)(by rfl) w
 by_cases b:U<65536
 ·by_cases c:U<256
  ·obtain⟨e1,e2⟩:=zX(m:=0)(by omega)(by omega) c
   exact step(Z0S U)(Zj e2(Zj(ZfF(by omega))(Zu(ZfF(by omega)))))(by rw[e1];congr 1;omega)
  ·have l:=ZaE U 8(by omega)
   obtain⟨e1,e2⟩:=zX(m:=8)(Z:=U/2^8)(by omega)(by omega)(by omega)
   rw[← Zeg] at e1 e2
   exact step(Z0T U)(Zj e2(Zj Zbc(Zj(ZmB(by omega))(Zu(ZfF(by omega))))))(by rw[e1];congr 1;omega)
 ·have l:=ZaE U 16(by omega)
  by_cases c:U/2^16<256
  ·obtain⟨e1,e2⟩:=zX(m:=16)(Z:=U/2^16)(by omega)(by omega) c
   rw[← Zeg] at e1 e2
   exact step(Z0U U)(Zj e2(Zj(ZfF(by rw[Zeg];omega))(Zj Zbc(Zu(ZmB(by omega))))))(by rw[e1];congr 1;omega)
  ·have l2:=ZaE(U/2^16) 8(by omega)
   obtain⟨e1,e2⟩:=zX(m:=24)(Z:=U/2^16/2^8)(by omega)(by omega)(by omega)
   rw[← Zeg,← Zeg] at e1 e2
   exact step(Z0V U)(Zj e2(Zj Zbc(Zj(ZmB(by rw[Zeg];omega))(Zj Zbc(Zu(ZmB(by omega)))))))(by rw[e1];congr 1;omega)
def ZmD:Ans:=fun vals s=>
 match vals with
 | [.int .u32 x]=>some(ZmC x,s,[(decide(0≤x∧x<4294967296),true)])
 | _=>none
theorem ZmE:ZT 118 ZmD:=by
 intro vals s v s' lg h hl w
 unfold ZmD at h
 split at h
 ·rename_i x
  cases h
  have hr:=hl _(List.mem_singleton.2 rfl)
  simp only[decide_eq_true_eq] at hr
  exact Zh0 x hr.1 hr.2 w
 ·cases h
def Zfa:Con:=alt 118 ZmD Zo
theorem ZaS:ConOk Zfa:=ZA Tryz.func118 rfl ZmE Zd
theorem ZmF:Tryz.f79.body=some(Zt Tryz.f79):=by kernel_rfl
theorem Z0W(p:Option Addr)(n c:Nat)(h:Hp):Zg(evC(Zs Tryz.prog Zf Zfa hcK) 100 false(Zt Tryz.f79)([.slice p n c]++List.replicate 22 undef,h,[cmp true])⟨[],[],[]⟩) 3 20(some none) [.slice p n c,undef,i6' 0] h [((n:Int)==0,true)]:=⟨by kernel_rfl,by kernel_rfl,by kernel_rfl⟩
theorem Zq4(o n c:Nat)(l:List Value):Zg(evC(Zs Tryz.prog Zf Zfa hcK) 100 false(Zt Tryz.f79)([sl 0 o n c]++List.replicate 22 undef,⟨1,[(l,tR)]⟩,[cmp false,cmp true])⟨[],[],[]⟩) 3 20(some none) [sl 0 o n c,undef,i6' 0]⟨1,[(l,tR)]⟩ [Zhv l o n c,(ZX(Zy l o n),true),((n:Int)==0,false)]:=⟨by kernel_rfl,by kernel_rfl,by kernel_rfl⟩
theorem ZmG(o n c:Nat)(x:Int)(l:List Value):Zg(evC(Zs Tryz.prog Zf Zfa hcK) 100 false(Zt Tryz.f79)([sl 0 o n c]++List.replicate 22 undef,⟨1,[(l,tR)]⟩,[cmp false,cmp false,at_,val(uu x)])⟨[],[],[]⟩) 3 20(some none) [sl 0 o n c,undef,i6'(IntKind.i64.wrap(IntKind.i64.wrap(n1 n*32)+(bitLen x.toNat:Nat)))]⟨1,[(l,tR)]⟩ [(decide(0≤x∧x<4294967296),true),(Z6(l[o+(n1 n).toNat*1]?)(.int .u32 x),true),(decide(0≤n1 n∧n1 n<n),true),Zhv l o n c,(ZX(Zy l o n),false),((n:Int)==0,false)]:=⟨by kernel_rfl,by kernel_rfl,by kernel_rfl⟩
def Zdy(L:List Int):Int:=match(L.length==0 || ZX L) with | true=>0 | false=>32*((L.length-1:Nat):Int)+(bitLen(L.getD(L.length-1) 0).toNat:Nat)
theorem Zeh{x:Int}(h0:0≤x)(h1:x<4294967296):bitLen x.toNat≤32:=by
 by_cases h:65536≤x.toNat
 ·have p8:(2:Nat)^8=256:=rfl
  have p16:(2:Nat)^16=65536:=rfl
  have l:=ZaE x.toNat 16(by omega)
  by_cases h2:256≤x.toNat/2^16
  ·have l2:=ZaE(x.toNat/2^16) 8(by omega)
   have:=bitLen_le8(x.toNat/2^16/2^8)(by omega)
   omega
  ·have:=bitLen_le8(x.toNat/2^16)(by omega)
   omega
 ·have p8:(2:Nat)^8=256:=rfl
  by_cases h2:256≤x.toNat
  ·have l2:=ZaE x.toNat 8(by omega)
   have:=bitLen_le8(x.toNat/2^8)(by omega)
   omega
  ·have:=bitLen_le8 x.toNat(by omega)
   omega
theorem ZmH{l:List Value}{o n c:Nat}(ha:Z8 tR l o n c=true):
  Runs(Zs Tryz.prog Zf Zfa hcK)(Zt Tryz.f79)([sl 0 o n c]++List.replicate 22 undef,⟨1,[(l,tR)]⟩,[]) fun e y=>(e=none∨e=some none)∧ZZ Tryz.prog Tryz.f79 y.1 y.2.1=some(i6'(Zdy(Zy l o n))):=by
 obtain⟨a1,a2,a3,a4,a5,a6,a7⟩:=ZK ha
 unfold Zdy
 by_cases h0:n=0
 ·have e0:((Zy l o n).length==0)=true:=by rw[a2,h0];rfl
  rw[e0,Bool.true_or]
  refine(Zb(Zh ZaS ZeW)(Z0W(some⟨0,o,none⟩) n c _)(Zu(by rw[h0];rfl))).mono fun e y he=> ?_
  obtain⟨rfl,⟨g,e2⟩,e3⟩:=he
  refine⟨.inr rfl,?_⟩
  rw[e2,e3]
  rfl
 ·have e0:((Zy l o n).length==0)=false:=by rw[a2];simpa using h0
  have e1:((n:Int)==0)=false:=by simpa using h0
  rw[e0,Bool.false_or]
  cases hb:ZX(Zy l o n) with
  | true=>
   refine(Zb(Zh ZaS ZeW)(Zq4 o n c l)(Zj ha(Zj hb(Zu e1)))).mono fun e y he=> ?_
   obtain⟨rfl,⟨g,e2⟩,e3⟩:=he
   refine⟨.inr rfl,?_⟩
   rw[e2,e3]
   rfl
  | false=>
   have h8:n≤8192:=by
    unfold ZX at hb
    simp only[Bool.or_eq_false_iff,decide_eq_false_iff_not,a2] at hb
    omega
   have ek:n1 n=((n-1:Nat):Int):=by
    unfold n1
    rw[Zw(by omega)(by omega)]
    omega
   rw[a2]
   have hx:=a1.rng((Zy l o n).getD(n-1) 0)(by
    have hk':n-1<(Zy l o n).length:=by omega
    simp [List.getD,List.getElem?_eq_getElem hk'])
   have hc:=a1.cell(k:=n-1)(by omega)
   have b32:=Zeh hx.1 hx.2
   refine(Zb(Zh ZaS ZeW)(ZmG o n c((Zy l o n).getD(n-1) 0) l)(Zj(decide_eq_true hx)(Zj(by
    rw[ek,Int.toNat_natCast,Nat.mul_one,hc];simp [Z6])(Zj(by rw[ek];exact decide_eq_true(by omega))(Zj ha(Zj hb(Zu e1))))))).mono fun e y he=> ?_
   obtain⟨rfl,⟨g,e2⟩,e3⟩:=he
   refine⟨.inr rfl,?_⟩
   have e4:IntKind.i64.wrap(IntKind.i64.wrap(n1 n*32)+(bitLen((Zy l o n).getD(n-1) 0).toNat:Nat))=32*((n-1:Nat):Int)+(bitLen((Zy l o n).getD(n-1) 0).toNat:Nat):=by
    rw[ek,Zw(n:=((n-1:Nat):Int)*32)(by omega)(by omega),Zw(by omega)(by omega)]
    omega
   rw[e2,e3,e4]
   rfl
theorem Zq5:Z7(Zn(Zi Tryz.prog Zf Zo true) 100 79 [Zq] [])(i6' 0) []:=⟨by kernel_rfl,by kernel_rfl,by kernel_rfl,by kernel_rfl⟩
def Z4E:Zaf:=fun vals h s=>
 match vals with
 | [.slice none 0 0]=>some(i6' 0,h,s,[])
 | [.slice(some⟨b,o,none⟩) n c]=>
  match h.blk? b with
  | some x=>some(i6'(Zdy(Zy x.1 o n)),h,s,[(Z8 x.2 x.1 o n c,true)])
  | _=>none
 | _=>none
theorem Zh1:Z9 79 Z4E:=by
 intro vals h s v h' s' lg hg hl m B w E hv
 unfold Z4E at hg
 split at hg
 ·cases hg
  refine(Zc(Zk Zd) Zq5(fun x hx=>by cases hx)(by rfl)(by rfl) w).mono fun e w' he=> ?_
  obtain⟨E',hb⟩:=zf E he.2
  exact⟨m,he.1,⟨Agree.refl _ _,E',hb,Nat.le_refl _,rfl⟩⟩
 ·rename_i b o n c
  split at hg
  ·rename_i x hx
   cases hg
   have ra:=hl _(List.mem_singleton.2 rfl)
   obtain⟨h1,h2,h3,h4,h5,h6,h7⟩:=ZK ra
   have hlt:=Hp.blk_lt hx
   have r:=ZmH(zE ra)
   have:=zk(T:=Zs Tryz.prog Zf Zfa hcK) Tryz.func79 ZmF(ZaJ h7)(vals:=[sl 0 o n c])(fun v hv=>by rw[List.mem_singleton.1 hv];rfl)(by rfl) r E(s:=fun _=>b)(fun i _=>hlt)(zO hx h5 h6 rfl)
   exact this.mono fun e w' he=>⟨m,he.1,he.2⟩
  ·cases hg
 ·cases hg
theorem Ztl{F:List Value}{o:Nat}(hF:F.length=o)(dx:List Int)(x:Int)(px:List Int):(F++wU(dx++x::px))[o+dx.length]? =some(uu x):=by
 rw[List.getElem?_append_right(by omega),hF,Nat.add_sub_cancel_left]
 exact ZsW dx x px
theorem Ztm{F:List Value}{o:Nat}(hF:F.length=o)(dx:List Int)(x d:Int)(px:List Int):(F++wU(dx++x::px)).set(o+dx.length)(uu d)=F++wU((dx++[d])++px):=by
 rw[List.set_append_right _ _(by omega),hF,Nat.add_sub_cancel_left,Zi4]
theorem Zq6{F la:List Value}{o c k:Nat}{L:List Int}(hF:F.length=o)(hL:wds L)(hk:k<32)(hN:L.length<4611686018427387904):
  Runs(Zi Tryz.prog Zf Zo true)(za(mR0 Tryz.f119)(.block 0(.loop(mL Tryz.f119))))([sl 1 o L.length c,i6' k]++List.replicate 25 undef,hU(F++wU L) la,[]) fun e y=>(e=none∨e=some none)∧ZZ Tryz.prog Tryz.f119 y.1 y.2.1=some(.tuple #[])∧y.2.1.cut 2=hU(F++wU(dg L.length(vN L*2^k))) la:=by
 refine Zx(Zk Zd)(Zm8 1 o L.length c(i6' k) _)(fun x hx=>by cases hx) fun g=> ?_
 refine(Runs.forLoop(R:=fun _=>False)(P:=fun y=>∃ (l i x j:Value)(g:Nat→Value),y.1=mF(sl 1 o L.length c)(i6' k) l i x(sl 1 o L.length c)(i6' L.length) j++tl 17 g∧y.2.1=hU(F++wU(dg L.length(vN L*2^k))) la)
  (fun r y=>∃ (dx px:List Int)(l:Int)(i0 x0:Value)(g:Nat→Value),px.length=r∧dx.length+px.length=L.length∧wds dx∧wds px∧(0≤l∧l<2^k)∧y.1=mF(sl 1 o L.length c)(i6' k)(uu l) i0 x0(sl 1 o L.length c)(i6' L.length)(i6' dx.length)++tl 17 g∧y.2.1=hU(F++wU(dx++px)) la∧vN dx+4294967296^dx.length*(vN px*2^k+l)=vN L*2^k)
  ?_(n:=L.length)⟨[],L,0,undef,undef,g,rfl,by simp,(fun x hx=>by cases hx),hL,⟨by omega,Int.pow_pos(by omega)⟩,rfl,rfl,by simp [vN]⟩).mono fun e' y he=> ?_
 ·rintro r⟨t,h',s'⟩⟨dx,px,l,i0,x0,g,hr,hl,wd1,wd2,hlo,ht,hh,hv⟩
  simp only at ht hh
  subst ht hh
  match px,hr,hl,wd2,hv with
  | [],hr,hl,wd2,hv=>
   have hl':dx.length=L.length:=by simpa using hl
   refine(Zb(Zk Zd)(Zm9 _ _ _ _ _ _ L.length dx.length _ g)(Zu(decide_eq_false(by omega)))).mono fun e' y he=> ?_
   obtain⟨rfl,⟨g1,e2⟩,e3⟩:=he
   refine⟨rfl,_,_,_,_,g1,e2,?_⟩
   simp only[vN] at hv
   rw[Int.zero_mul,Int.zero_add] at hv
   have e5:=ZcC dx.length(vN dx) l
   rw[hv,Zf9 dx wd1,hl'] at e5
   rw[e3,e5,List.append_nil]
  | x::px,hr,hl,wd2,hv=>
   obtain⟨wx,wd2⟩:=Zah wd2
   obtain⟨k1,k2,k3⟩:=Z8U wx hlo hk
   have cS:=Ztl hF dx x px
   have lS:(F++wU(dx++x::px)).length=o+L.length:=by
    unfold wU
    simp at hl ⊢
    omega
   have hl':dx.length<L.length:=by simp at hl;omega
   have l1:decide(o+((dx.length:Int)).toNat*1<(F++wU(dx++x::px)).length)=true:=by
    rw[lS,Int.toNat_natCast]
    exact decide_eq_true(by omega)
   have l2:(inR dx.length L.length).1=(inR dx.length L.length).2:=decide_eq_true(by omega)
   have l4:(Zdu(F++wU(dx++x::px)) o dx.length x).1=(Zdu(F++wU(dx++x::px)) o dx.length x).2:=Zax cS
   have e32:IntKind.i64.wrap(32-(k:Int))=32-(k:Int):=Zw(by omega)(by omega)
   have l5:decide(IntKind.i64.wrap(32-(k:Int))<0)=false:=by
    rw[e32]
    exact decide_eq_false(by omega)
   have l6:decide((k:Int)<0)=false:=decide_eq_false(by omega)
   have l7:decide((dx.length:Int)<(L.length:Nat))=true:=decide_eq_true(by omega)
   refine(Zb(Zk Zd)(Z0R o L.length c k l dx.length x i0 x0 la(F++wU(dx++x::px)) g)(Zj l5(Zj l1(Zj l2(Zj l6(Zj l4(Zj l2(Zu l7)))))))).mono fun e' y he=> ?_
   obtain⟨rfl,⟨g1,e2⟩,e3⟩:=he
   refine⟨px.length,by simp at hr;omega,dx++[Zq2 x k l],px,Zq3 x k,i6' dx.length,uu x,g1,rfl,by simp at hl ⊢;omega,Zai wd1(fun z hz=>by rw[List.mem_singleton.1 hz];exact k1),wd2,k2,?_,?_,?_⟩
   ·rw[e2,Zw(by omega)(by omega)]
    simp
   ·rw[e3,Int.toNat_natCast,Nat.mul_one,Ztm hF]
   ·simp only[vN] at hv
    rw[zu,List.length_append,List.length_singleton,pw]
    exact Zm7 k3 hv
 ·match e',he with
  | none,he=>
   obtain⟨l,i,x,j,g,e1,e2⟩:=he
   refine⟨.inl rfl,?_,?_⟩
   ·rw[e1];exact ZmA _ _ _ _ _ _ _ _ _ _
   ·rw[e2];rfl
  | some none,he=>exact he.elim
  | some(some _),he=>exact he.elim
def upS(S:List Value)(o n:Nat)(k:Int):List Value:=S.take o++wU(dg n(vN(Zy S o n)*2^k.toNat))
def Z6z:Zaf:=fun vals h s=>
 match vals,h with
 | [.slice(some⟨1,o,none⟩) n c,.int .i64 k],⟨2,[(S,t),(la,t')]⟩=>some(.tuple #[],⟨2,[(upS S o n k,tU),(la,tR)]⟩,s,[(Nat.beq t tU,true),(Nat.beq t' tR,true),(Z8 t S o n c,true),(Nat.beq(o+n) S.length,true),(la.all still,true),(decide(0≤k∧k<32),true)])
 | _,_=>none
theorem Zbu(L:List Int)(n:Nat):(wU L).all(lt1 n)=true:=by
 unfold wU
 rw[List.all_eq_true]
 intro v hv
 obtain⟨x,_,rfl⟩:=List.mem_map.1 hv
 rfl
theorem zy{l:List Value}{n:Nat}(hn:0<n)(h:l.all still=true):l.all(lt1 n)=true:=by
 rw[List.all_eq_true] at*
 exact fun v hv=>zj hn(h v hv)
theorem ZvE:Z9 119 Z6z:=by
 intro vals h s v h' s' lg hg hl m B w E hv
 unfold Z6z at hg
 split at hg
 ·rename_i o n c k S t la t'
  cases hg
  have q1:=Nat.eq_of_beq_eq_true(hl _(List.mem_cons_self))
  have q2:=Nat.eq_of_beq_eq_true(hl _(List.mem_cons_of_mem _ List.mem_cons_self))
  have ra:=hl _(List.mem_cons_of_mem _(List.mem_cons_of_mem _ List.mem_cons_self))
  have q4:=Nat.eq_of_beq_eq_true(hl _(List.mem_cons_of_mem _(List.mem_cons_of_mem _(List.mem_cons_of_mem _ List.mem_cons_self))))
  have q5:=hl _(List.mem_cons_of_mem _(List.mem_cons_of_mem _(List.mem_cons_of_mem _(List.mem_cons_of_mem _ List.mem_cons_self))))
  have q6:=of_decide_eq_true(hl _(List.mem_cons_of_mem _(List.mem_cons_of_mem _(List.mem_cons_of_mem _(List.mem_cons_of_mem _(List.mem_cons_of_mem _(List.mem_singleton.2 rfl)))))))
  simp only at q1 q2 q4 q5
  subst q1 q2
  obtain⟨a1,a2,a3,a4,a5,a6,a7⟩:=ZK ra
  obtain⟨K,rfl⟩:=Int.eq_ofNat_of_zero_le q6.1
  have hc:c<4611686018427387904:=Zp.1 a4
  have eS:S=S.take o++wU(Zy S o n):=by
   have h1:=a1.cut
   rw[a2] at h1
   rw[← h1]
   unfold Zb5
   rw[show n=(S.drop o).length from by simp;omega,List.take_length,List.take_append_drop]
  have hF:(S.take o).length=o:=by simp;omega
  have r:=Zq6(la:=la)(c:=c)(k:=K) hF a1.rng(by omega)(by omega)
  rw[a2,← eS] at r
  have ht:(Hp.tight⟨2,[(upS S o n K,tU),(la,tR)]⟩)=true:=by
   unfold Hp.tight upS
   simp only[List.all_cons,List.all_nil,List.all_append,Bool.and_true,Bool.and_eq_true]
   refine⟨⟨?_,Zbu _ _⟩,zy(by omega) q5⟩
   rw[List.all_eq_true]
   exact fun v hv=>zj(by omega)(a7 v(List.mem_of_mem_take hv))
  exact zg(T:=Zi Tryz.prog Zf Zo true) Tryz.func119 ZiD(vals:=[sl 1 o n c,i6' K])(v:= .tuple #[])(h:=hU S la)(by rfl) ht r m B w E hv
 ·cases hg
end Go.Proofs.YtjlponbdflkbjaaGreatDoor.Na
namespace Go.Nt
def zD(f:Nat→Int):Nat→Nat
 | 0=>0
 | k+1=>10*zD f k+(f k).toNat
theorem Zca{f:Nat→Int}:∀ k,(∀ j,j<k→0≤f j∧f j<10)→zD f k<10^k
 | 0,_=>by simp [zD]
 | k+1,h=>by
  have ih:=Zca k(fun j hj=>h j(by omega))
  have:=h k(by omega)
  simp only[zD,Nat.pow_succ]
  omega
theorem ZgC{f:Nat→Int}(i:Nat):∀ k,zD f(i+k)=zD f i*10^k+zD(fun j=>f(i+j)) k
 | 0=>by simp [zD]
 | k+1=>by
  rw[show i+(k+1)=(i+k)+1 by omega]
  simp only[zD]
  rw[ZgC i k,Nat.pow_succ]
  generalize zD(fun j=>f(i+j)) k=A
  generalize zD f i=B
  generalize 10^k=C
  rw[Nat.mul_add,Nat.add_assoc,← Nat.mul_assoc,Nat.mul_comm 10 B,Nat.mul_assoc B 10 C,Nat.mul_comm 10 C]
end Go.Nt
namespace Go.Proofs.YtjlponbdflkbjaaGreatDoor.Na
open Go.KRun Go.Nt
set_option maxRecDepth 100000
def hX(X:List(List Value×TypeId))(S la:List Value):Hp:=⟨2+X.length,X++[(S,tU),(la,tR)]⟩
end Go.Proofs.YtjlponbdflkbjaaGreatDoor.Na
namespace Go.Proofs.YtjlponbdflkbjaaGreatDoor
open Go.KRun Go.Nt
set_option maxRecDepth 100000
structure Nu(i:Nat)(x:List Value×TypeId)(p:Option Addr)(n c:Nat)(A:List Int):Prop where
 row:∀ h:Hp,h.blk? i=some x→zG h p n c=true∧Zr h p n=A
 pos:p=none∨∃ o,p=some⟨i,o,none⟩
 st:∀ v∈x.1,still v=true
 lt0:∀ v∈x.1,still v=true
 ros:ro x.2=true∧ab x.2=false
theorem Nu.rn{i:Nat}{x:List Value×TypeId}{p:Option Addr}{n c:Nat}{A:List Int}(h:Nu i x p n c A){f:Nat→Nat}(hf:f i=i):KRun.rn f(.slice p n c)= .slice p n c:=by
 rcases h.pos with rfl | ⟨o,rfl⟩
 ·rfl
 ·show Value.slice(some⟨f i,o,none⟩) n c=_
  rw[hf]
theorem Nu.lt{i:Nat}{x:List Value×TypeId}{p:Option Addr}{n c:Nat}{A:List Int}(h:Nu i x p n c A){k:Nat}(hk:i<k):KRun.lt k(.slice p n c)=true:=by
 rcases h.pos with rfl | ⟨o,rfl⟩
 ·rfl
 ·exact Zp.2 hk
theorem ZbN{h:Hp}{p:Option Addr}{n c:Nat}(i:Nat)(hr:zG h p n c=true):∃ x p' b,Nu i x p' n c(Zr h p n)∧(∀ s:Nat→Nat,s i=b→rn s(.slice p' n c)= .slice p n c)∧(Zal x.2=false→∃ y r,h.blk? b=some y∧Zal y.2=false∧rt y.2=rt x.2∧y.1=x.1++r):=by
 rcases ZH hr with⟨rfl,rfl,rfl,e0⟩ | ⟨b,o,x,rfl,hx,q1,q2,e0⟩
 ·refine⟨([],2*ZW),none,0,⟨fun h' _=>⟨rfl,by rw[e0];rfl⟩,.inl rfl,(fun v hv=>by cases hv),(fun v hv=>by cases hv),(by kernel_rfl),(by kernel_rfl)⟩,fun s _=>rfl,fun ht=> ?_⟩
  rw[show Zal(2*ZW)=true from by kernel_rfl] at ht
  cases ht
 ·obtain⟨h1,h2,h3,h4,h5,h6,h7⟩:=zv q1
  refine⟨(x.1,tR),some⟨i,o,none⟩,b,⟨fun h' hb=>⟨?_,?_⟩,.inr⟨o,rfl⟩,q2,h7,ZpN,ZpO⟩,fun s hs=> ?_,fun _=>⟨x,[],hx,h5,by rw[h6];exact ZpP.symm,by simp⟩⟩
  ·simp only[zG,hb,Bool.and_eq_true]
   refine⟨?_,List.all_eq_true.2 q2⟩
   unfold Zbr at q1 ⊢
   simp only[Bool.and_eq_true,Bool.not_eq_true'] at q1 ⊢
   obtain⟨⟨⟨⟨⟨⟨_,_⟩,p3⟩,p4⟩,p5⟩,p6⟩,p7⟩:=q1
   exact⟨⟨⟨⟨⟨⟨Zbq,by kernel_rfl⟩,p3⟩,p4⟩,p5⟩,p6⟩,p7⟩
  ·rw[e0]
   simp [Zr,hb]
  ·show Value.slice(some⟨s i,o,none⟩) n c=_
   rw[hs]
def dgB(L:List Int):Bool:=L.all fun x=>decide(0≤x∧x<65536)
theorem Zby{L:List Int}(h:dgB L=true):∀ x∈L,Dg 65536 x:=fun x hx=>of_decide_eq_true(List.all_eq_true.1 h x hx)
theorem ZbO{L:List Int}(h:∀ x∈L,Dg 65536 x):dgB L=true:=List.all_eq_true.2 fun x hx=>decide_eq_true(h x hx)
theorem zP{h:Hp}{p:Option Addr}{n c:Nat}(hr:zG h p n c=true):(Zr h p n).length=n:=by
 rcases ZH hr with⟨rfl,rfl,rfl,e0⟩ | ⟨b,o,x,rfl,hx,q1,q2,e0⟩
 ·rw[e0];rfl
 ·rw[e0];exact(zv q1).2.1
theorem Zei{L:List Int}(h:∀ x∈L,Dg 65536 x)(i:Nat):Dg 65536(L.getD i 0):=by
 by_cases hi:i<L.length
 ·rw[ZiA hi];exact h _(List.getElem_mem hi)
 ·rw[show L.getD i 0=0 from by simp [List.getD,List.getElem?_eq_none(show L.length≤i by omega)]]
  exact⟨by omega,by omega⟩
theorem Zar(L:List Int)(i:Nat):atN L(i:Int)=L.getD i 0:=by unfold atN;rw[if_pos(by omega),Int.toNat_natCast]
def ZjI(F:Func):List Code:=[Z5(Zt F),Z5(Z0(Zt F)),Z5(Z0(Z0(Zt F)))]
def aR3(F:Func):Code:=Z5(Z5(Z0(Z0(Z0(Zt F)))))
def ZaT(F:Func):Code:=cIn(cIn(Z0(Z5(Z0(Z0(Z0(Zt F)))))))
def Zza(F:Func):Code:=Z0(Z0(Z0(Z0(Zt F))))
theorem ZmI:Tryz.f56.body=some(za(ZjI Tryz.f56)(.seq(.seq(aR3 Tryz.f56)(.block 0(.loop(ZaT Tryz.f56))))(Zza Tryz.f56))):=by kernel_rfl
theorem Zq7(a b:Value)(h:Hp):Zg(evL(Zs Tryz.prog Zf Zo hcV) 100(ZjI Tryz.f56)([a,b]++List.replicate 40 undef,h,[])⟨[],[],[]⟩) 7 35 none [a,b,undef,undef,Zq,Zq,.int .u32 0] h []:=⟨by kernel_rfl,by kernel_rfl,by kernel_rfl⟩
theorem ZvF(a b:Value)(h:Hp)(g:Nat→Value):Zg(evC(Zs Tryz.prog Zf Zo hcV) 100 false(aR3 Tryz.f56)([a,b,undef,undef,Zq,Zq,.int .u32 0]++tl 35 g,h,[])⟨[],[],[]⟩) 8 34 none [a,b,undef,undef,Zq,Zq,.int .u32 0,.int .i64 0] h []:=⟨by kernel_rfl,by kernel_rfl,by kernel_rfl⟩
def sm(A B:List Int)(k i:Int):Int:=IntKind.u32.wrap(IntKind.u32.wrap(k+atN A i)+atN B i)
def hu3(lo:List Value)(y x:List Value×TypeId):Hp:=⟨3,[(lo,tU),y,x]⟩
def hp2(y x:List Value×TypeId):Hp:=⟨2,[y,x]⟩
def Z0X(w:Nat):List Dec:=match w with | 0=>[cmp true] | 1=>[cmp false,cmp true] | _=>[cmp false,cmp false,cmp true]
def Ztn(w:Nat)(n n':Nat)(k i:Int):Log:=match w with | 0=>[(decide(i<n),true)] | 1=>[(decide(i<n'),true),(decide(i<n),false)] | _=>[(decide(k>0),true),(decide(i<n'),false),(decide(i<n),false)]
def rP(h:Hp)(p:Option Addr)(n c:Nat):Bool×Bool:=(zG h p n c,true)
theorem ZmJ(p q:Option Addr)(n c n' c':Nat)(k i:Int)(x y:List Value×TypeId)(g:Nat→Value):Zg(evC(Zs Tryz.prog Zf Zo hcV) 100 false(ZaT Tryz.f56)([.slice p n c,.slice q n' c',undef,undef,Zq,Zq,.int .u32 k,.int .i64 i]++tl 34 g,hp2 y x,Z0X 0++[cmp true])⟨[],[],[]⟩) 8 34 none [.slice p n c,.slice q n' c',undef,undef,Zq,sl 3 0 1 grown,.int .u32(IntKind.u32.wrap((sm(Zr(hp2 y x) p n)(Zr(hp2 y x) q n') k i).tdiv 65536)),.int .i64(IntKind.i64.wrap(i+1))]⟨4,[([.int .u32((sm(Zr(hp2 y x) p n)(Zr(hp2 y x) q n') k i).tmod 65536)],tU),([.int .u32((sm(Zr(hp2 y x) p n)(Zr(hp2 y x) q n') k i).tmod 65536)],tU),y,x]⟩((decide((65536:Int)=0),false)::rP(hp2 y x) q n' c'::rP(hp2 y x) p n c::Ztn 0 n n' k i):=⟨by kernel_rfl,by kernel_rfl,by kernel_rfl⟩
theorem ZmK(p q:Option Addr)(n c n' c':Nat)(k i:Int)(x y:List Value×TypeId)(g:Nat→Value):Zg(evC(Zs Tryz.prog Zf Zo hcV) 100 false(ZaT Tryz.f56)([.slice p n c,.slice q n' c',undef,undef,Zq,Zq,.int .u32 k,.int .i64 i]++tl 34 g,hp2 y x,Z0X 1++[cmp true])⟨[],[],[]⟩) 8 34 none [.slice p n c,.slice q n' c',undef,undef,Zq,sl 3 0 1 grown,.int .u32(IntKind.u32.wrap((sm(Zr(hp2 y x) p n)(Zr(hp2 y x) q n') k i).tdiv 65536)),.int .i64(IntKind.i64.wrap(i+1))]⟨4,[([.int .u32((sm(Zr(hp2 y x) p n)(Zr(hp2 y x) q n') k i).tmod 65536)],tU),([.int .u32((sm(Zr(hp2 y x) p n)(Zr(hp2 y x) q n') k i).tmod 65536)],tU),y,x]⟩((decide((65536:Int)=0),false)::rP(hp2 y x) q n' c'::rP(hp2 y x) p n c::Ztn 1 n n' k i):=⟨by kernel_rfl,by kernel_rfl,by kernel_rfl⟩
theorem ZjJ(p q:Option Addr)(n c n' c' z:Nat)(k i:Int)(x y:List Value×TypeId)(lo:List Value)(g:Nat→Value):Zg(evC(Zs Tryz.prog Zf Zo hcV) 100 false(ZaT Tryz.f56)([.slice p n c,.slice q n' c',undef,undef,Zq,sl 2 0 z grown,.int .u32 k,.int .i64 i]++tl 34 g,hu3 lo y x,Z0X 0++[cmp true,at_])⟨[],[],[]⟩) 8 34 none [.slice p n c,.slice q n' c',undef,undef,Zq,sl 4 0(z+1) grown,.int .u32(IntKind.u32.wrap((sm(Zr(hu3 lo y x) p n)(Zr(hu3 lo y x) q n') k i).tdiv 65536)),.int .i64(IntKind.i64.wrap(i+1))]⟨5,[(lo++[.int .u32((sm(Zr(hu3 lo y x) p n)(Zr(hu3 lo y x) q n') k i).tmod 65536)],tU),([.int .u32((sm(Zr(hu3 lo y x) p n)(Zr(hu3 lo y x) q n') k i).tmod 65536)],tU),([],2*ZW),y,x]⟩((Zac tU(lo,tU)([.int .u32((sm(Zr(hu3 lo y x) p n)(Zr(hu3 lo y x) q n') k i).tmod 65536)],tU) z 0 1,true)::(decide((65536:Int)=0),false)::rP(hu3 lo y x) q n' c'::rP(hu3 lo y x) p n c::Ztn 0 n n' k i):=⟨by kernel_rfl,by kernel_rfl,by kernel_rfl⟩
theorem ZjK(p q:Option Addr)(n c n' c' z:Nat)(k i:Int)(x y:List Value×TypeId)(lo:List Value)(g:Nat→Value):Zg(evC(Zs Tryz.prog Zf Zo hcV) 100 false(ZaT Tryz.f56)([.slice p n c,.slice q n' c',undef,undef,Zq,sl 2 0 z grown,.int .u32 k,.int .i64 i]++tl 34 g,hu3 lo y x,Z0X 1++[cmp true,at_])⟨[],[],[]⟩) 8 34 none [.slice p n c,.slice q n' c',undef,undef,Zq,sl 4 0(z+1) grown,.int .u32(IntKind.u32.wrap((sm(Zr(hu3 lo y x) p n)(Zr(hu3 lo y x) q n') k i).tdiv 65536)),.int .i64(IntKind.i64.wrap(i+1))]⟨5,[(lo++[.int .u32((sm(Zr(hu3 lo y x) p n)(Zr(hu3 lo y x) q n') k i).tmod 65536)],tU),([.int .u32((sm(Zr(hu3 lo y x) p n)(Zr(hu3 lo y x) q n') k i).tmod 65536)],tU),([],2*ZW),y,x]⟩((Zac tU(lo,tU)([.int .u32((sm(Zr(hu3 lo y x) p n)(Zr(hu3 lo y x) q n') k i).tmod 65536)],tU) z 0 1,true)::(decide((65536:Int)=0),false)::rP(hu3 lo y x) q n' c'::rP(hu3 lo y x) p n c::Ztn 1 n n' k i):=⟨by kernel_rfl,by kernel_rfl,by kernel_rfl⟩
theorem ZjL(p q:Option Addr)(n c n' c' z:Nat)(k i:Int)(x y:List Value×TypeId)(lo:List Value)(g:Nat→Value):Zg(evC(Zs Tryz.prog Zf Zo hcV) 100 false(ZaT Tryz.f56)([.slice p n c,.slice q n' c',undef,undef,Zq,sl 2 0 z grown,.int .u32 k,.int .i64 i]++tl 34 g,hu3 lo y x,Z0X 2++[cmp true,at_])⟨[],[],[]⟩) 8 34 none [.slice p n c,.slice q n' c',undef,undef,Zq,sl 4 0(z+1) grown,.int .u32(IntKind.u32.wrap((sm(Zr(hu3 lo y x) p n)(Zr(hu3 lo y x) q n') k i).tdiv 65536)),.int .i64(IntKind.i64.wrap(i+1))]⟨5,[(lo++[.int .u32((sm(Zr(hu3 lo y x) p n)(Zr(hu3 lo y x) q n') k i).tmod 65536)],tU),([.int .u32((sm(Zr(hu3 lo y x) p n)(Zr(hu3 lo y x) q n') k i).tmod 65536)],tU),([],2*ZW),y,x]⟩((Zac tU(lo,tU)([.int .u32((sm(Zr(hu3 lo y x) p n)(Zr(hu3 lo y x) q n') k i).tmod 65536)],tU) z 0 1,true)::(decide((65536:Int)=0),false)::rP(hu3 lo y x) q n' c'::rP(hu3 lo y x) p n c::Ztn 2 n n' k i):=⟨by kernel_rfl,by kernel_rfl,by kernel_rfl⟩
theorem Zq8(p q:Option Addr)(n c n' c':Nat)(v:Value)(k i:Int)(h:Hp)(g:Nat→Value):Zg(evC(Zs Tryz.prog Zf Zo hcV) 100 false(ZaT Tryz.f56)([.slice p n c,.slice q n' c',undef,undef,Zq,v,.int .u32 k,.int .i64 i]++tl 34 g,h,[cmp false,cmp false,cmp false])⟨[],[],[]⟩) 8 34(some(some 0)) [.slice p n c,.slice q n' c',undef,undef,Zq,v,.int .u32 k,.int .i64 i] h [(decide(k>0),false),(decide(i<n'),false),(decide(i<n),false)]:=⟨by kernel_rfl,by kernel_rfl,by kernel_rfl⟩
theorem Zq9(a b:Value)(z:Nat)(k i:Int)(x y:List Value×TypeId)(lo:List Value)(g:Nat→Value):Zg(evC(Zs Tryz.prog Zf Zo hcV) 100 false(Zza Tryz.f56)([a,b,undef,undef,Zq,sl 2 0 z grown,.int .u32 k,.int .i64 i]++tl 34 g,hu3 lo y x,[])⟨[],[],[]⟩) 5 37(some none) [a,b,undef,undef,sl 2 0(Zm(Zy lo 0 z))(Zm(Zy lo 0 z))](hu3 lo y x) [(Zbr tU lo 0 z grown,true)]:=⟨by kernel_rfl,by kernel_rfl,by kernel_rfl⟩
theorem ZjM(p q:Option Addr)(n c n' c':Nat)(h:Hp):Zg(evC(Zs Tryz.prog Zf Zo hcV) 100 false(Zt Tryz.f56)([.slice p n c,.slice q n' c']++List.replicate 40 undef,h,[cmp false,cmp false,cmp false])⟨[],[],[]⟩) 5 37(some none) [.slice p n c,.slice q n' c',undef,undef,Zq] h [(decide((0:Int)>0),false),(decide((0:Int)<n'),false),(decide((0:Int)<n),false)]:=⟨by kernel_rfl,by kernel_rfl,by kernel_rfl⟩
theorem zm{n:Int}(h0:0≤n)(h1:n<4294967296):IntKind.u32.wrap n=n:=by simp [IntKind.wrap,IntKind.bits,IntKind.signed];omega
def dgN(L:List Int)(i:Nat):Nat:=(L.getD i 0).toNat
theorem z3{L:List Int}(h:∀ x∈L,Dg 65536 x)(i:Nat):dgN L i<65536∧((dgN L i:Nat):Int)=L.getD i 0:=by
 have:=Zei h i
 unfold dgN
 omega
theorem Zej{L:List Int}{i:Nat}(h:L.length≤i):dgN L i=0:=by unfold dgN;simp [List.getD,List.getElem?_eq_none h]
theorem Z60{A B:List Int}(hA:∀ x∈A,Dg 65536 x)(hB:∀ x∈B,Dg 65536 x){k:Nat}(hk:k≤1)(i:Nat):sm A B k i=((k+dgN A i+dgN B i:Nat):Int):=by
 have h1:=z3 hA i
 have h2:=z3 hB i
 unfold sm
 rw[Zar,Zar,← h1.2,← h2.2,zm(n:=(k:Int)+_)(by omega)(by omega),zm(by omega)(by omega)]
 omega
theorem ZfG(a:Nat):((a:Int)).tmod 65536=((a % 65536:Nat):Int):=by rw[Int.tmod_eq_emod_of_nonneg(by omega)];omega
theorem ZfH{a:Nat}(h:a<4294967296):IntKind.u32.wrap((a:Int).tdiv 65536)=((a/65536:Nat):Int):=by
 rw[Int.tdiv_eq_ediv_of_nonneg(by omega),zm(by omega)(by omega)]
 omega
theorem okW{p:Bool×Bool}{l:Log}(h:p.1=p.2)(hl:Z4 l):Z4(p::l):=Zj h hl
section
variable {x y : List Value × TypeId} {p q : Option Addr} {n c n' c' : Nat} {A B : List Int}
theorem ZcD(NA:Nu 0 x p n c A)(NB:Nu 1 y q n' c' B){h:Hp}(h0:h.blk? 0=some x)(h1:h.blk? 1=some y):∀ i z,(⟨2,[y,x]⟩:Hp).blk? i=some z→h.blk? i=some z∧∀ v∈z.1,still v=true:=fun i z hz=>by
 rcases ZeT hz with⟨rfl,rfl⟩ | ⟨rfl,rfl⟩
 ·exact⟨h0,NA.st⟩
 ·exact⟨h1,NB.st⟩
theorem ZjN(NA:Nu 0 x p n c A)(NB:Nu 1 y q n' c' B)(hA:∀ x∈A,Dg 65536 x)(hB:∀ x∈B,Dg 65536 x){k i:Nat}{O:List Int}(hk:k≤1)(hi:i<1073741823)(hO:O.length=i)(hgo:i<n∨i<n'∨0<k){Y:Lf}
  (hY:(i=0∧k=0∧(∃ g,Y.1=[.slice p n c,.slice q n' c',undef,undef,Zq,Zq,.int .u32(k:Nat),.int .i64(i:Nat)]++tl 34 g)∧Y.2.1=hp2 y x)∨(0<i∧(∃ g,Y.1=[.slice p n c,.slice q n' c',undef,undef,Zq,sl 2 0 i grown,.int .u32(k:Nat),.int .i64(i:Nat)]++tl 34 g)∧Y.2.1=hu3(wU O) y x)):
  RunsW(Zs Tryz.prog Zf Zo hcV)(ZaT Tryz.f56) Y fun e z=>e=none∧(∃ g,z.1=[.slice p n c,.slice q n' c',undef,undef,Zq,sl 2 0(i+1) grown,.int .u32((k+dgN A i+dgN B i)/65536:Nat),.int .i64((i+1:Nat):Int)]++tl 34 g)∧z.2.1=hu3(wU(O++[(((k+dgN A i+dgN B i) % 65536:Nat):Int)])) y x:=by
 obtain⟨t,h',s⟩:=Y
 have hd1:=(z3 hA i).1
 have hd2:=(z3 hB i).1
 have es:=Z60 hA hB hk i
 have e1:(sm A B k i).tmod 65536=(((k+dgN A i+dgN B i) % 65536:Nat):Int):=by rw[es,ZfG]
 have e2:IntKind.u32.wrap((sm A B k i).tdiv 65536)=(((k+dgN A i+dgN B i)/65536:Nat):Int):=by rw[es,ZfH(by omega)]
 have e3:IntKind.i64.wrap((i:Int)+1)=((i+1:Nat):Int):=by rw[Zw(by omega)(by omega)];omega
 rcases hY with⟨h0,k0,⟨g,ht⟩,hh⟩ | ⟨h0,⟨g,ht⟩,hh⟩
 ·simp only at ht hh
  subst ht hh
  have r0:=NA.row(hp2 y x) rfl
  have r1:=NB.row(hp2 y x) rfl
  have fin:RunsW(Zs Tryz.prog Zf Zo hcV)(ZaT Tryz.f56)([.slice p n c,.slice q n' c',undef,undef,Zq,Zq,.int .u32(k:Nat),.int .i64(i:Nat)]++tl 34 g,hp2 y x,s) fun e z=>e=none∧(∃ g,z.1=[.slice p n c,.slice q n' c',undef,undef,Zq,sl 3 0 1 grown,.int .u32(IntKind.u32.wrap((sm A B k i).tdiv 65536)),.int .i64(IntKind.i64.wrap((i:Int)+1))]++tl 34 g)∧z.2.1=⟨4,[([.int .u32((sm A B k i).tmod 65536)],tU),([.int .u32((sm A B k i).tmod 65536)],tU),y,x]⟩:=by
   by_cases ha:i<n
   ·have:=Ze(Zh Zd Zv)(s0:=s)(ZmJ p q n c n' c' k i x y g)(okW rfl(okW r1.1(okW r0.1(Zu(decide_eq_true(by omega))))))
    rw[r0.2,r1.2] at this
    exact this
   ·have:=Ze(Zh Zd Zv)(s0:=s)(ZmK p q n c n' c' k i x y g)(okW rfl(okW r1.1(okW r0.1(okW(decide_eq_true(by omega))(Zu(decide_eq_false(by omega)))))))
    rw[r0.2,r1.2] at this
    exact this
  have hO':O=[]:=List.length_eq_zero_iff.1(by omega)
  rw[e1,e2,e3] at fin
  have:=fin.kept(k:=2)(b:=3)(base:=[y,x])(y:=([.int .u32(((k+dgN A i+dgN B i) % 65536:Nat):Int)],tU))(front':=[.slice p n c,.slice q n' c',undef,undef,Zq,sl 2 0 1 grown,.int .u32((k+dgN A i+dgN B i)/65536:Nat),.int .i64((i+1:Nat):Int)]) rfl
   (by simp only[List.map_cons,List.map_nil,NA.rn(f:=zC 2 3) rfl,NB.rn(f:=zC 2 3) rfl];kernel_rfl)(ZcD NA NB rfl rfl) rfl(by omega)(fun v hv=>by rw[List.mem_singleton.1 hv];rfl)(fun v hv=>by
    simp only[List.mem_cons,List.not_mem_nil,or_false] at hv
    rcases hv with rfl | rfl | rfl | rfl | rfl | rfl | rfl | rfl
    ·exact NA.lt(by omega)
    ·exact NB.lt(by omega)
    all_goals rfl)
  refine this.mono fun e z hz=> ?_
  obtain⟨rfl,⟨g',q1⟩,q2⟩:=hz
  subst hO' h0
  exact⟨rfl,⟨g',q1⟩,q2⟩
 ·simp only at ht hh
  subst ht hh
  have r0:=NA.row(hu3(wU O) y x) rfl
  have r1:=NB.row(hu3(wU O) y x) rfl
  have hchk:Zac tU(wU O,tU)([.int .u32((sm A B k i).tmod 65536)],tU) i 0 1=true:=
   Zba(L:=O)(M:=[(sm A B k i).tmod 65536]) hO.symm(show 0<1 by omega)(by show O.length+1≤_;omega)
  have fin:RunsW(Zs Tryz.prog Zf Zo hcV)(ZaT Tryz.f56)([.slice p n c,.slice q n' c',undef,undef,Zq,sl 2 0 i grown,.int .u32(k:Nat),.int .i64(i:Nat)]++tl 34 g,hu3(wU O) y x,s) fun e z=>e=none∧(∃ g,z.1=[.slice p n c,.slice q n' c',undef,undef,Zq,sl 4 0(i+1) grown,.int .u32(IntKind.u32.wrap((sm A B k i).tdiv 65536)),.int .i64(IntKind.i64.wrap((i:Int)+1))]++tl 34 g)∧z.2.1=⟨5,[(wU O++[.int .u32((sm A B k i).tmod 65536)],tU),([.int .u32((sm A B k i).tmod 65536)],tU),([],2*ZW),y,x]⟩:=by
   by_cases ha:i<n
   ·have hl:Z4(Ztn 0 n n' k i):=Zu(decide_eq_true(by omega))
    have:=Ze(Zh Zd Zv)(s0:=s)(ZjJ p q n c n' c' i k i x y(wU O) g)(by rw[r0.2,r1.2];exact okW hchk(okW rfl(okW r1.1(okW r0.1 hl))))
    rw[r0.2,r1.2] at this
    exact this
   ·by_cases hb:i<n'
    ·have hl:Z4(Ztn 1 n n' k i):=okW(decide_eq_true(by omega))(Zu(decide_eq_false(by omega)))
     have:=Ze(Zh Zd Zv)(s0:=s)(ZjK p q n c n' c' i k i x y(wU O) g)(by rw[r0.2,r1.2];exact okW hchk(okW rfl(okW r1.1(okW r0.1 hl))))
     rw[r0.2,r1.2] at this
     exact this
    ·have hl:Z4(Ztn 2 n n' k i):=okW(decide_eq_true(by omega))(okW(decide_eq_false(by omega))(Zu(decide_eq_false(by omega))))
     have:=Ze(Zh Zd Zv)(s0:=s)(ZjL p q n c n' c' i k i x y(wU O) g)(by rw[r0.2,r1.2];exact okW hchk(okW rfl(okW r1.1(okW r0.1 hl))))
     rw[r0.2,r1.2] at this
     exact this
  rw[e1,e2,e3] at fin
  have ew:wU O++[.int .u32(((k+dgN A i+dgN B i) % 65536:Nat):Int)]=wU(O++[(((k+dgN A i+dgN B i) % 65536:Nat):Int)]):=by rw[ZY];rfl
  rw[ew] at fin
  have:=fin.kept(k:=2)(b:=4)(base:=[y,x])(y:=(wU(O++[(((k+dgN A i+dgN B i) % 65536:Nat):Int)]),tU))(front':=[.slice p n c,.slice q n' c',undef,undef,Zq,sl 2 0(i+1) grown,.int .u32((k+dgN A i+dgN B i)/65536:Nat),.int .i64((i+1:Nat):Int)]) rfl
   (by simp only[List.map_cons,List.map_nil,NA.rn(f:=zC 2 4) rfl,NB.rn(f:=zC 2 4) rfl];kernel_rfl)(ZcD NA NB rfl rfl) rfl(by omega)(ZF _)(fun v hv=>by
    simp only[List.mem_cons,List.not_mem_nil,or_false] at hv
    rcases hv with rfl | rfl | rfl | rfl | rfl | rfl | rfl | rfl
    ·exact NA.lt(by omega)
    ·exact NB.lt(by omega)
    all_goals rfl)
  exact this
def aSt(x y:List Value×TypeId)(p q:Option Addr)(n c n' c':Nat)(O:List Int)(i k:Nat)(Y:Lf):Prop:=
 (i=0∧k=0∧(∃ g,Y.1=[.slice p n c,.slice q n' c',undef,undef,Zq,Zq,.int .u32(k:Nat),.int .i64(i:Nat)]++tl 34 g)∧Y.2.1=hp2 y x)∨(0<i∧(∃ g,Y.1=[.slice p n c,.slice q n' c',undef,undef,Zq,sl 2 0 i grown,.int .u32(k:Nat),.int .i64(i:Nat)]++tl 34 g)∧Y.2.1=hu3(wU O) y x)
def Z9z(x y:List Value×TypeId)(p q:Option Addr)(n c n' c':Nat)(A B:List Int)(m:Nat)(Y:Lf):Prop:=
 ∃ (i k:Nat)(O:List Int),O.length=i∧m=max n n'+1-i∧i≤max n n'+1∧k≤1∧(i=max n n'+1→k=0)∧(∀ x∈O,Dg 65536 x)∧vb 65536 O+65536^O.length*k=vb 65536(A.take i)+vb 65536(B.take i)∧aSt x y p q n c n' c' O i k Y
def ZvG(x y:List Value×TypeId)(p q:Option Addr)(n c n' c':Nat)(A B:List Int)(Y:Lf):Prop:=
 ∃ (i:Nat)(O:List Int),O.length=i∧i≤max n n'+1∧(∀ x∈O,Dg 65536 x)∧vb 65536 O=vb 65536 A+vb 65536 B∧n≤i∧n'≤i∧aSt x y p q n c n' c' O i 0 Y
theorem ZmL(NA:Nu 0 x p n c A)(NB:Nu 1 y q n' c' B)(lA:A.length=n)(lB:B.length=n')(hA:∀ x∈A,Dg 65536 x)(hB:∀ x∈B,Dg 65536 x)(hn:max n n'+2<1073741824)(g:Nat→Value):
  RunsW(Zs Tryz.prog Zf Zo hcV)(.block 0(.loop(ZaT Tryz.f56)))([.slice p n c,.slice q n' c',undef,undef,Zq,Zq,.int .u32 0,.int .i64 0]++tl 34 g,hp2 y x,[]) fun e Y=>match e with | none=>ZvG x y p q n c n' c' A B Y | some none=>False | some(some _)=>False:=by
 refine RunsW.forLoop(P:=ZvG x y p q n c n' c' A B)(R:=fun _=>False)(Z9z x y p q n c n' c' A B) ?_(n:=max n n'+1)⟨0,0,[],rfl,by omega,by omega,by omega,by omega,(fun x hx=>by cases hx),by simp [vb],.inl⟨rfl,rfl,⟨g,rfl⟩,rfl⟩⟩
 rintro m Y⟨i,k,O,hO,hm,hi,hk,hk0,hOd,hval,hY⟩
 by_cases hgo:i<n∨i<n'∨0<k
 ·have hmx:i≤max n n':=by
   rcases Nat.lt_or_ge i(max n n'+1) with h | h
   ·omega
   ·have:k=0:=hk0(by omega)
    omega
  have r:=ZjN NA NB hA hB hk(by omega) hO hgo hY
  refine r.mono fun e z hz=> ?_
  obtain⟨rfl,z1,z2⟩:=hz
  have d1:=(z3 hA i).1
  have d2:=(z3 hB i).1
  refine⟨max n n'+1-(i+1),by omega,i+1,(k+dgN A i+dgN B i)/65536,O++[(((k+dgN A i+dgN B i) % 65536:Nat):Int)],by simp [hO],rfl,by omega,by omega,fun he=> ?_,fun x hx=> ?_,?_,.inr⟨by omega,z1,z2⟩⟩
  ·have z1:dgN A i=0:=Zej(by omega)
   have z2:dgN B i=0:=Zej(by omega)
   omega
  ·rcases List.mem_append.1 hx with hx | hx
   ·exact hOd x hx
   ·rw[List.mem_singleton.1 hx]
    exact⟨by omega,by omega⟩
  ·have:=Zlg(a:=dgN A i)(c:=dgN B i) hval
   rw[Zag,Zag,← hO]
   rw[List.length_append]
   rw[hO] at this ⊢
   exact this
 ·have hk:k=0:=by omega
  subst hk
  have ha:n≤i:=by omega
  have hb:n'≤i:=by omega
  have out:∀ (v:Value)(h:Hp)(g:Nat→Value)(s:List Dec),RunsW(Zs Tryz.prog Zf Zo hcV)(ZaT Tryz.f56)([.slice p n c,.slice q n' c',undef,undef,Zq,v,.int .u32((0:Nat):Int),.int .i64(i:Nat)]++tl 34 g,h,s) fun e z=>e=some(some 0)∧(∃ g,z.1=[.slice p n c,.slice q n' c',undef,undef,Zq,v,.int .u32((0:Nat):Int),.int .i64(i:Nat)]++tl 34 g)∧z.2.1=h:=fun v h g s=>
   Ze(Zh Zd Zv)(Zq8 p q n c n' c' v 0 i h g)(okW rfl(okW(decide_eq_false(by omega))(Zu(decide_eq_false(by omega)))))
  have hv:vb 65536 O=vb 65536 A+vb 65536 B:=by
   rw[List.take_of_length_le(by omega),List.take_of_length_le(by omega)] at hval
   omega
  obtain⟨t,h',s⟩:=Y
  rcases hY with⟨h0,k0,⟨g,ht⟩,hh⟩ | ⟨h0,⟨g,ht⟩,hh⟩
  ·simp only at ht hh
   subst ht hh
   refine(out Zq _ g s).mono fun e z hz=> ?_
   obtain⟨rfl,z1,z2⟩:=hz
   exact⟨rfl,i,O,hO,hi,hOd,hv,ha,hb,.inl⟨h0,rfl,z1,z2⟩⟩
  ·simp only at ht hh
   subst ht hh
   refine(out(sl 2 0 i grown) _ g s).mono fun e z hz=> ?_
   obtain⟨rfl,z1,z2⟩:=hz
   exact⟨rfl,i,O,hO,hi,hOd,hv,ha,hb,.inr⟨h0,z1,z2⟩⟩
theorem ZmM(NA:Nu 0 x p n c A)(NB:Nu 1 y q n' c' B)(lA:A.length=n)(lB:B.length=n')(hA:∀ x∈A,Dg 65536 x)(hB:∀ x∈B,Dg 65536 x)(hn:max n n'+2<1073741824)(h0:0<n∨0<n'){V:Nat}(hV:V=vb 65536 A+vb 65536 B):
  RunsW(Zs Tryz.prog Zf Zo hcV)(za(ZjI Tryz.f56)(.seq(.seq(aR3 Tryz.f56)(.block 0(.loop(ZaT Tryz.f56))))(Zza Tryz.f56)))([.slice p n c,.slice q n' c']++List.replicate 40 undef,hp2 y x,[]) fun e z=>(e=none∨e=some none)∧ZZ Tryz.prog Tryz.f56 z.1 z.2.1=some(sl 2 0(d16 V).length(d16 V).length)∧∃ r,z.2.1.blk? 2=some(wU(d16 V)++r,tU):=by
 refine Z1(Zh Zd Zv)(Zq7 _ _ _)(fun x hx=>by cases hx) fun g=> ?_
 refine ZgA(Ze(Zh Zd Zv)(ZvF _ _ _ g)(fun x hx=>by cases hx))(fun e y he=>by cases he.1)(P2:=fun e Y=>match e with | none=>ZvG x y p q n c n' c' A B Y | some none=>False | some(some _)=>False) ?_ ?_ ?_
 ·rintro⟨t,h',s⟩⟨_,⟨g',ht⟩,hh⟩
  simp only at ht hh
  subst ht hh
  exact RunsW.script(ZmL NA NB lA lB hA hB hn g')
 ·intro e y he
  match e,he with
  | none,he=>exact he
  | some id,he=>exact he
 ·rintro⟨t,h',s⟩⟨i,O,hO,hi,hOd,hv,ha,hb,hY⟩
  rcases hY with⟨e0,_⟩ | ⟨_,⟨g',ht⟩,hh⟩
  ·omega
  ·simp only at ht hh
   subst ht hh
   have hrow:Zbr tU(wU O) 0 i grown=true:=by
    rw[← hO]
    exact Zaq(fun x hx=>⟨(hOd x hx).1,by have:=(hOd x hx).2;omega⟩)(by omega)(ZyW _)
   refine(Ze(Zh Zd Zv)(Zq9 _ _ i 0 i x y(wU O) g')(Zu hrow)).mono fun e z he=> ?_
   obtain⟨rfl,⟨g2,e1⟩,e2⟩:=he
   have et:Zm(Zy(wU O) 0 i)=(d16 V).length:=by
    rw[← hO,ZaQ,Zat(by omega) hOd,hv,← hV]
    rfl
   refine⟨.inr rfl,?_,?_⟩
   ·rw[e1,e2,et]
    rfl
   ·rw[e2]
    refine⟨wU(O.drop(Zm O)),?_⟩
    have e3:wU(d16 V)++wU(O.drop(Zm O))=wU O:=by
     unfold d16
     rw[hV,← hv,← zl(by omega) _ hOd,← ZY,List.take_append_drop]
    rw[e3]
    rfl
end
theorem ZcE{x y:List Value×TypeId}{p q:Option Addr}{n c n' c':Nat}{A B:List Int}(NA:Nu 0 x p n c A)(NB:Nu 1 y q n' c' B):(hp2 y x).rows:=by
 refine⟨rfl,fun b z hz=> ?_⟩
 rcases ZeT hz with⟨rfl,rfl⟩ | ⟨rfl,rfl⟩
 ·exact⟨NA.ros.1,NA.lt0,NA.ros.2⟩
 ·exact⟨NB.ros.1,NB.lt0,NB.ros.2⟩
theorem ZcF{x y:List Value×TypeId}{h:Hp}{a b:Nat}(hx:Zal x.2=false→∃ z r,h.blk? a=some z∧Zal z.2=false∧rt z.2=rt x.2∧z.1=x.1++r)(hy:Zal y.2=false→∃ z r,h.blk? b=some z∧Zal z.2=false∧rt z.2=rt y.2∧z.1=y.1++r):(hp2 y x).fits(ZeV a b) h:=by
 intro i z hz ht
 rcases ZeT hz with⟨rfl,rfl⟩ | ⟨rfl,rfl⟩
 ·exact hx ht
 ·exact hy ht
theorem ZjO:Tryz.f56.body=some(Zt Tryz.f56):=by kernel_rfl
def ZV(h:Hp)(p q:Option Addr)(n c n' c':Nat):Bool:=zG h p n c && zG h q n' c' && dgB(Zr h p n) && dgB(Zr h q n') && Nat.blt(max n n'+2) 1073741824
theorem ZcG{h:Hp}{p q:Option Addr}{n c n' c':Nat}(hr:ZV h p q n c n' c'=true):zG h p n c=true∧zG h q n' c'=true∧(∀ x∈Zr h p n,Dg 65536 x)∧(∀ x∈Zr h q n',Dg 65536 x)∧max n n'+2<1073741824:=by
 unfold ZV at hr
 simp only[Bool.and_eq_true] at hr
 obtain⟨⟨⟨⟨h1,h2⟩,h3⟩,h4⟩,h5⟩:=hr
 exact⟨h1,h2,Zby h3,Zby h4,Zp.1 h5⟩
def vO(h:Hp)(p:Option Addr)(n:Nat):Nat:=vb 65536(Zr h p n)
theorem Zbd(A:Nat):∀ x∈d16 A,Dg 65536 x:=Zfy(by omega) A
def Zdh(V:Nat)(h:Hp)(s:List Dec)(lg:Log):Option(Value×Hp×List Dec×Log):=some(sl h.n 0(d16 V).length(d16 V).length,h.push(wU(d16 V)) tU,s,lg)
def ZqA:Zaf:=fun vals h s=>
 match vals,s with
 | [.slice p n c,.slice q n' c'],.inr(.inr(.inr(.inl d)))::s'=>
  match d with
  | true=>Zdh(vO h p n+vO h q n') h s' [(ZV h p q n c n' c',true),(decide(0<n∨0<n'),true)]
  | false=>some(Zq,h,s',[(ZV h p q n c n' c',true),(decide(0<n∨0<n'),false)])
 | _,_=>none
theorem ZfI:Z9 56 ZqA:=by
 intro vals h s v h' s' lg hg hl m B w E hv
 unfold ZqA at hg
 split at hg
 ·rename_i p n c q n' c' d s2
  split at hg
  ·unfold Zdh at hg
   cases hg
   have q1:=hl _(List.mem_cons_self)
   have q2:=hl _(List.mem_cons_of_mem _(List.mem_singleton.2 rfl))
   simp only[decide_eq_true_eq] at q1 q2
   obtain⟨r1,r2,d1,d2,hn⟩:=ZcG q1
   obtain⟨x,p',a,NA,eA,fA⟩:=ZbN 0 r1
   obtain⟨y,q',b,NB,eB,fB⟩:=ZbN 1 r2
   have r:=ZmM NA NB(zP r1)(zP r2) d1 d2 hn q2 rfl
   have:=ZG(T:=Zs Tryz.prog Zf Zo hcV) Tryz.func56 ZmI(ZcE NA NB)(vals:=[.slice p' n c,.slice q' n' c'])(fun v hv=>by
    simp only[List.mem_cons,List.not_mem_nil,or_false] at hv
    rcases hv with rfl | rfl
    ·exact NA.lt(by show 0<2;omega)
    ·exact NB.lt(by show 1<2;omega))(k:=2)(cs:=wU(d16(vO h p n+vO h q n')))(ty:=tU)(Zbb _)(by kernel_rfl) r(by rfl) E(s:=ZeV a b)(ZcF fA fB)
   simp only[List.map_cons,List.map_nil] at this
   rw[eA _ rfl,eB _ rfl] at this
   exact this
  ·cases hg
   have q1:=hl _(List.mem_cons_self)
   have q2:=hl _(List.mem_cons_of_mem _(List.mem_singleton.2 rfl))
   simp only[decide_eq_false_iff_not] at q1 q2
   obtain⟨r1,r2,d1,d2,hn⟩:=ZcG q1
   obtain⟨x,p',a,NA,eA,fA⟩:=ZbN 0 r1
   obtain⟨y,q',b,NB,eB,fB⟩:=ZbN 1 r2
   have hr:Runs(Zs Tryz.prog Zf Zo hcV)(Zt Tryz.f56)([.slice p' n c,.slice q' n' c']++List.replicate 40 undef,hp2 y x,[]) fun e z=>(e=none∨e=some none)∧ZZ Tryz.prog Tryz.f56 z.1 z.2.1=some Zq:=by
    refine(Zb(Zh Zd Zv)(ZjM p' q' n c n' c' _)(okW rfl(okW(decide_eq_false(by omega))(Zu(decide_eq_false(by omega)))))).mono fun e z he=> ?_
    obtain⟨rfl,⟨g,e2⟩,e3⟩:=he
    refine⟨.inr rfl,?_⟩
    rw[e2,e3]
    rfl
   have:=ZD(T:=Zs Tryz.prog Zf Zo hcV) Tryz.func56 ZjO(ZcE NA NB)(vals:=[.slice p' n c,.slice q' n' c'])(fun v hv=>by
    simp only[List.mem_cons,List.not_mem_nil,or_false] at hv
    rcases hv with rfl | rfl
    ·exact NA.lt(by show 0<2;omega)
    ·exact NB.lt(by show 1<2;omega))(v:=Zq)(by rfl) hr.w E(s:=ZeV a b)(ZcF fA fB)
   simp only[List.map_cons,List.map_nil] at this
   rw[eA _ rfl,eB _ rfl] at this
   exact this
 ·cases hg
end Go.Proofs.YtjlponbdflkbjaaGreatDoor
