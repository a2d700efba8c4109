/-
  ConN4, NumO, ConN5, ConN7, ConN8, NumP, ConN9, ConNA, ConV1, ConV2, ConV3, RunP, ConNU
-/
import Derived.Test.YtjlponbdflkbjaaGreatDoorG09
import Derived.Test.YtjlponbdflkbjaaGreatDoorG05
import Derived.Test.YtjlponbdflkbjaaGreatDoorG06
import Derived.Test.YtjlponbdflkbjaaGreatDoorG07
namespace Go.Proofs.YtjlponbdflkbjaaGreatDoor.Na
open Go.KRun Go.Nt
set_option maxRecDepth 100000
def Zc6(k:Int):Value:= .iface 42(.int .i64 k)
def Zdb(d:Bool):Value:=match d with | true=>Zc6 1 | false=> .nilIface
def ZX(L:List Int):Bool:=decide(8192<L.length) || (decide(0<L.length) && (L.getD(L.length-1) 0==0))
theorem ZpX(p:Option Addr)(n c:Nat)(h:Hp):Zg(evC(Zi Tryz.prog Zf Zo true) 100 false(Zt Tryz.f117)([.slice p n c]++List.replicate 20 undef,h,[cmp true])⟨[],[],[]⟩) 3 18(some none) [.slice p n c,undef,Zc6 1] h [(decide((n:Int)>8192),true)]:=⟨by kernel_rfl,by kernel_rfl,by kernel_rfl⟩
theorem ZpY(p:Option Addr)(n c:Nat)(h:Hp):Zg(evC(Zi Tryz.prog Zf Zo true) 100 false(Zt Tryz.f117)([.slice p n c]++List.replicate 20 undef,h,[cmp false,cmp false])⟨[],[],[]⟩) 3 18(some none) [.slice p n c,undef,.nilIface] h [(decide((n:Int)>0),false),(decide((n:Int)>8192),false)]:=⟨by kernel_rfl,by kernel_rfl,by kernel_rfl⟩
theorem ZpZ(d:Bool)(o n c:Nat)(x:Int)(l:List Value):Zg(evC(Zi Tryz.prog Zf Zo true) 100 false(Zt Tryz.f117)([sl 0 o n c]++List.replicate 20 undef,⟨1,[(l,tR)]⟩,[cmp false,cmp true,at_,val(.int .u32 x),cmp d])⟨[],[],[]⟩) 3 18(some none) [sl 0 o n c,undef,Zdb d]⟨1,[(l,tR)]⟩ [(x==0,d),(Z6(l[o+(n1 n).toNat*1]?)(.int .u32 x),true),(decide(0≤n1 n∧n1 n<n),true),(decide((n:Int)>0),true),(decide((n:Int)>8192),false)]:=by
 cases d<;>exact⟨by kernel_rfl,by kernel_rfl,by kernel_rfl⟩
theorem Zqa:Tryz.f117.body=some(Zt Tryz.f117):=by kernel_rfl
theorem Zqb{l:List Value}{o c:Nat}{L:List Int}(hR:Row l o L):
  Runs(Zi Tryz.prog Zf Zo true)(Zt Tryz.f117)([sl 0 o L.length c]++List.replicate 20 undef,⟨1,[(l,tR)]⟩,[]) fun e y=>(e=none∨e=some none)∧ZZ Tryz.prog Tryz.f117 y.1 y.2.1=some(Zdb(ZX L)):=by
 unfold ZX
 by_cases h1:8192<L.length
 ·rw[decide_eq_true h1,Bool.true_or]
  refine(Zb(Zk Zd)(ZpX _ _ _ _)(Zu(decide_eq_true(by omega)))).mono fun e y he=> ?_
  obtain⟨rfl,⟨g,e2⟩,e3⟩:=he
  refine⟨.inr rfl,?_⟩
  rw[e2,e3]
  rfl
 ·rw[decide_eq_false h1,Bool.false_or]
  by_cases h2:0<L.length
  ·rw[decide_eq_true h2,Bool.true_and]
   have ek:n1 L.length=((L.length-1:Nat):Int):=by
    unfold n1
    rw[Zw(by omega)(by omega)]
    omega
   refine(Zb(Zk Zd)(ZpZ(L.getD(L.length-1) 0==0) o L.length c(L.getD(L.length-1) 0) l)(Zj rfl(Zj(by
    rw[ek,Int.toNat_natCast,Nat.mul_one,hR.cell(by omega)];simp [Z6])(Zj(by rw[ek];exact decide_eq_true(by omega))(Zj(decide_eq_true(by omega))(Zu(decide_eq_false(by omega)))))))).mono fun e y he=> ?_
   obtain⟨rfl,⟨g,e2⟩,e3⟩:=he
   refine⟨.inr rfl,?_⟩
   rw[e2,e3]
   generalize(L.getD(L.length-1) 0==0)=d
   cases d<;>rfl
  ·rw[decide_eq_false h2,Bool.false_and]
   refine(Zb(Zk Zd)(ZpY _ _ _ _)(Zj(decide_eq_false(by omega))(Zu(decide_eq_false(by omega))))).mono fun e y he=> ?_
   obtain⟨rfl,⟨g,e2⟩,e3⟩:=he
   refine⟨.inr rfl,?_⟩
   rw[e2,e3]
   rfl
theorem Zva:Z7(Zn(Zi Tryz.prog Zf Zo true) 100 117 [Zq] []) .nilIface []:=⟨by kernel_rfl,by kernel_rfl,by kernel_rfl,by kernel_rfl⟩
def Z48:Zaf:=fun vals h s=>
 match vals with
 | [.slice none 0 0]=>some(.nilIface,h,s,[])
 | [.slice(some⟨b,o,none⟩) n c]=>
  match h.blk? b,s with
  | some x,.inr(.inr(.inr(.inl d)))::s'=>some(Zdb d,h,s',[(Z8 x.2 x.1 o n c,true),(ZX(Zy x.1 o n),d)])
  | _,_=>none
 | _=>none
theorem Zmf:Z9 117 Z48:=by
 intro vals h s v h' s' lg hg hl m B w E hv
 unfold Z48 at hg
 split at hg
 ·cases hg
  refine(Zc(Zk Zd) Zva(fun x hx=>by cases hx)(by rfl)(by rfl) w).mono fun e w' he=> ?_
  obtain⟨E',hb⟩:=zf E he.2
  exact⟨m,he.1,⟨Agree.refl _ _,E',hb,Nat.le_refl _,rfl⟩⟩
 ·rename_i b o n c
  split at hg
  ·rename_i x d s2 hx
   cases hg
   obtain⟨h1,h2,h3,h4,h5,h6,h7⟩:=ZK(hl _(List.mem_cons_self))
   have hd:=hl _(List.mem_cons_of_mem _(List.mem_singleton.2 rfl))
   simp only at hd
   have hlt:=Hp.blk_lt hx
   have r:=Zqb(c:=c) h1
   rw[h2,hd] at r
   have e0:rn(fun _=>b)(Zdb d)=Zdb d:=by cases d<;>rfl
   have:=zk(T:=Zi Tryz.prog Zf Zo true) Tryz.func117 Zqa(ZaJ h7)(vals:=[sl 0 o n c])(fun v hv=>by rw[List.mem_singleton.1 hv];rfl)(by cases d<;>rfl) r E(s:=fun _=>b)(fun i _=>hlt)(zO hx h5 h6 rfl)
   rw[e0] at this
   exact this.mono fun e w' he=>⟨m,he.1,he.2⟩
  ·cases hg
 ·cases hg
def hcK:Hc:=zS 117 Z48 hcN
theorem ZeW:HcOk hcK:=Z2 Tryz.func117 rfl Zmf Zam
def Zhv(l:List Value)(o n c:Nat):Bool×Bool:=(Z8 tR l o n c,true)
theorem Zqc(o n c o' n' c':Nat)(la lb:List Value):Zg(evC(Zs Tryz.prog Zf Zo hcK) 100 false(Zt Tryz.f116)([sl 0 o n c,sl 1 o' n' c']++List.replicate 11 undef,h2 la lb,[cmp true])⟨[],[],[]⟩) 5 8(some none) [sl 0 o n c,sl 1 o' n' c',undef,undef,Zc6 1](h2 la lb) [Zhv la o n c,(ZX(Zy la o n),true)]:=⟨by kernel_rfl,by kernel_rfl,by kernel_rfl⟩
theorem Z0z(d:Bool)(o n c o' n' c':Nat)(la lb:List Value):Zg(evC(Zs Tryz.prog Zf Zo hcK) 100 false(Zt Tryz.f116)([sl 0 o n c,sl 1 o' n' c']++List.replicate 11 undef,h2 la lb,[cmp false,cmp d])⟨[],[],[]⟩) 5 8(some none) [sl 0 o n c,sl 1 o' n' c',undef,undef,Zdb d](h2 la lb) [Zhv lb o' n' c',(ZX(Zy lb o' n'),d),Zhv la o n c,(ZX(Zy la o n),false)]:=by
 cases d<;>exact⟨by kernel_rfl,by kernel_rfl,by kernel_rfl⟩
theorem zE{ty:TypeId}{l:List Value}{o n c:Nat}(h:Z8 ty l o n c=true):Z8 tR l o n c=true:=by
 unfold Z8 at*
 simp only[Bool.and_eq_true,Bool.not_eq_true'] at*
 obtain⟨⟨⟨⟨⟨⟨h1,h2⟩,h3⟩,h4⟩,h5⟩,h6⟩,h7⟩:=h
 exact⟨⟨⟨⟨⟨⟨Zbq,by kernel_rfl⟩,h3⟩,h4⟩,h5⟩,h6⟩,h7⟩
theorem Zec:Tryz.f116.body=some(Zt Tryz.f116):=by kernel_rfl
theorem Zmg{la lb:List Value}{o n c o' n' c':Nat}(ha:Z8 tR la o n c=true)(hb:Z8 tR lb o' n' c'=true):
  Runs(Zs Tryz.prog Zf Zo hcK)(Zt Tryz.f116)([sl 0 o n c,sl 1 o' n' c']++List.replicate 11 undef,h2 la lb,[]) fun e y=>(e=none∨e=some none)∧ZZ Tryz.prog Tryz.f116 y.1 y.2.1=some(Zdb(ZX(Zy la o n) || ZX(Zy lb o' n'))):=by
 cases h:ZX(Zy la o n) with
 | true=>
  refine(Zb(Zh Zd ZeW)(Zqc o n c o' n' c' la lb)(Zj ha(Zu h))).mono fun e y he=> ?_
  obtain⟨rfl,⟨g,e2⟩,e3⟩:=he
  refine⟨.inr rfl,?_⟩
  rw[e2,e3]
  rfl
 | false=>
  refine(Zb(Zh Zd ZeW)(Z0z(ZX(Zy lb o' n')) o n c o' n' c' la lb)(Zj hb(Zj rfl(Zj ha(Zu h))))).mono fun e y he=> ?_
  obtain⟨rfl,⟨g,e2⟩,e3⟩:=he
  refine⟨.inr rfl,?_⟩
  rw[e2,e3,Bool.false_or]
  generalize ZX(Zy lb o' n')=d
  cases d<;>rfl
theorem Zvb(d:Bool)(o n c:Nat)(l:List Value):Zg(evC(Zs Tryz.prog Zf Zo hcK) 100 false(Zt Tryz.f116)([Zq,sl 0 o n c]++List.replicate 11 undef,⟨1,[(l,tR)]⟩,[cmp d])⟨[],[],[]⟩) 5 8(some none) [Zq,sl 0 o n c,undef,undef,Zdb d]⟨1,[(l,tR)]⟩ [Zhv l o n c,(ZX(Zy l o n),d)]:=by
 cases d<;>exact⟨by kernel_rfl,by kernel_rfl,by kernel_rfl⟩
theorem Zvc(d:Bool)(o n c:Nat)(l:List Value):Zg(evC(Zs Tryz.prog Zf Zo hcK) 100 false(Zt Tryz.f116)([sl 0 o n c,Zq]++List.replicate 11 undef,⟨1,[(l,tR)]⟩,[cmp d])⟨[],[],[]⟩) 5 8(some none) [sl 0 o n c,Zq,undef,undef,Zdb d]⟨1,[(l,tR)]⟩ [Zhv l o n c,(ZX(Zy l o n),d)]:=by
 cases d<;>exact⟨by kernel_rfl,by kernel_rfl,by kernel_rfl⟩
theorem Zqd:Z7(Zn(Zi Tryz.prog Zf Zo true) 100 116 [Zq,Zq] []) .nilIface []:=⟨by kernel_rfl,by kernel_rfl,by kernel_rfl,by kernel_rfl⟩
theorem Zi5{vals:List Value}{l:List Value}{o n c:Nat}{d:Bool}(hf:Zg(evC(Zs Tryz.prog Zf Zo hcK) 100 false(Zt Tryz.f116)(vals++List.replicate 11 undef,⟨1,[(l,tR)]⟩,[cmp d])⟨[],[],[]⟩) 5 8(some none)(vals++[undef,undef,Zdb d])⟨1,[(l,tR)]⟩ [Zhv l o n c,(ZX(Zy l o n),d)])(ha:Z8 tR l o n c=true)(hd:ZX(Zy l o n)=d)(hr:∀ g,ZZ Tryz.prog Tryz.f116((vals++[undef,undef,Zdb d])++tl 8 g)⟨1,[(l,tR)]⟩=some(Zdb d)):
  Runs(Zs Tryz.prog Zf Zo hcK)(Zt Tryz.f116)(vals++List.replicate 11 undef,⟨1,[(l,tR)]⟩,[]) fun e y=>(e=none∨e=some none)∧ZZ Tryz.prog Tryz.f116 y.1 y.2.1=some(Zdb d):=by
 refine(Zb(Zh Zd ZeW) hf(Zj ha(Zu hd))).mono fun e y he=> ?_
 obtain⟨rfl,⟨g,e2⟩,e3⟩:=he
 refine⟨.inr rfl,?_⟩
 rw[e2,e3]
 exact hr g
def Zj9:Zaf:=fun vals h s=>
 match vals with
 | [.slice(some⟨b,o,none⟩) n c,.slice(some⟨b',o',none⟩) n' c']=>
  match h.blk? b,h.blk? b',s with
  | some x,some y,.inr(.inr(.inr(.inl d)))::s'=>some(Zdb d,h,s',[(Z8 x.2 x.1 o n c,true),(Z8 y.2 y.1 o' n' c',true),(ZX(Zy x.1 o n) || ZX(Zy y.1 o' n'),d)])
  | _,_,_=>none
 | [.slice none 0 0,.slice(some⟨b,o,none⟩) n c]=>
  match h.blk? b,s with
  | some x,.inr(.inr(.inr(.inl d)))::s'=>some(Zdb d,h,s',[(Z8 x.2 x.1 o n c,true),(ZX(Zy x.1 o n),d)])
  | _,_=>none
 | [.slice(some⟨b,o,none⟩) n c,.slice none 0 0]=>
  match h.blk? b,s with
  | some x,.inr(.inr(.inr(.inl d)))::s'=>some(Zdb d,h,s',[(Z8 x.2 x.1 o n c,true),(ZX(Zy x.1 o n),d)])
  | _,_=>none
 | [.slice none 0 0,.slice none 0 0]=>some(.nilIface,h,s,[])
 | _=>none
theorem Zc7:Z9 116 Zj9:=by
 intro vals h s v h' s' lg hg hl m B w E hv
 unfold Zj9 at hg
 split at hg
 ·rename_i b o n c b' o' n' c'
  split at hg
  ·rename_i x y d s2 hx hy
   cases hg
   have ra:=hl _(List.mem_cons_self)
   have rb:=hl _(List.mem_cons_of_mem _ List.mem_cons_self)
   obtain⟨a1,a2,a3,a4,a5,a6,a7⟩:=ZK ra
   obtain⟨b1,b2,b3,b4,b5,b6,b7⟩:=ZK rb
   have hd:=hl _(List.mem_cons_of_mem _(List.mem_cons_of_mem _(List.mem_singleton.2 rfl)))
   simp only at hd
   have r:=Zmg(zE ra)(zE rb)
   rw[hd] at r
   have lx:=Hp.blk_lt hx
   have ly:=Hp.blk_lt hy
   have e0:rn(ZeV b b')(Zdb d)=Zdb d:=by cases d<;>rfl
   have:=zk(T:=Zs Tryz.prog Zf Zo hcK) Tryz.func116 Zec(Zht a7 b7)(vals:=[sl 0 o n c,sl 1 o' n' c'])(fun v hv=>by
    simp only[List.mem_cons,List.not_mem_nil,or_false] at hv
    rcases hv with rfl | rfl<;>rfl)(by cases d<;>rfl) r E(s:=ZeV b b')(fun i _=>by unfold ZeV;split<;>assumption)(ZdZ hx a5 a6 hy b5 b6)
   rw[e0] at this
   exact this.mono fun e w' he=>⟨m,he.1,he.2⟩
  ·cases hg
 ·rename_i b o n c
  split at hg
  ·rename_i x d s2 hx
   cases hg
   have ra:=hl _(List.mem_cons_self)
   have hd:=hl _(List.mem_cons_of_mem _(List.mem_singleton.2 rfl))
   simp only at hd
   obtain⟨a1,a2,a3,a4,a5,a6,a7⟩:=ZK ra
   have hlt:=Hp.blk_lt hx
   have e0:rn(fun _=>b)(Zdb d)=Zdb d:=by cases d<;>rfl
   have r:=Zi5(Zvb d o n c x.1)(zE ra) hd(fun _=>by cases d<;>rfl)
   have:=zk(T:=Zs Tryz.prog Zf Zo hcK) Tryz.func116 Zec(ZaJ a7)(vals:=[Zq,sl 0 o n c])(fun v hv=>by
    simp only[List.mem_cons,List.not_mem_nil,or_false] at hv
    rcases hv with rfl | rfl<;>rfl)(by cases d<;>rfl) r E(s:=fun _=>b)(fun i _=>hlt)(zO hx a5 a6 rfl)
   rw[e0] at this
   exact this.mono fun e w' he=>⟨m,he.1,he.2⟩
  ·cases hg
 ·rename_i b o n c
  split at hg
  ·rename_i x d s2 hx
   cases hg
   have ra:=hl _(List.mem_cons_self)
   have hd:=hl _(List.mem_cons_of_mem _(List.mem_singleton.2 rfl))
   simp only at hd
   obtain⟨a1,a2,a3,a4,a5,a6,a7⟩:=ZK ra
   have hlt:=Hp.blk_lt hx
   have e0:rn(fun _=>b)(Zdb d)=Zdb d:=by cases d<;>rfl
   have r:=Zi5(Zvc d o n c x.1)(zE ra) hd(fun _=>by cases d<;>rfl)
   have:=zk(T:=Zs Tryz.prog Zf Zo hcK) Tryz.func116 Zec(ZaJ a7)(vals:=[sl 0 o n c,Zq])(fun v hv=>by
    simp only[List.mem_cons,List.not_mem_nil,or_false] at hv
    rcases hv with rfl | rfl<;>rfl)(by cases d<;>rfl) r E(s:=fun _=>b)(fun i _=>hlt)(zO hx a5 a6 rfl)
   rw[e0] at this
   exact this.mono fun e w' he=>⟨m,he.1,he.2⟩
  ·cases hg
 ·cases hg
  refine(Zc(Zk Zd) Zqd(fun x hx=>by cases hx)(by rfl)(by rfl) w).mono fun e w' he=> ?_
  obtain⟨E',hb⟩:=zf E he.2
  exact⟨m,he.1,⟨Agree.refl _ _,E',hb,Nat.le_refl _,rfl⟩⟩
 ·cases hg
def wd4(x y c:Int):Bool:=decide((0≤x∧x<4294967296)∧(0≤y∧y<4294967296)∧0≤c∧c≤1)
def Z00(x y c:Int):Value:= .tuple #[uu((x+y+c) % 4294967296),uu((x+y+c)/4294967296)]
def Zqe(x y c:Int):Int:=IntKind.u64.wrap(IntKind.u64.wrap(IntKind.u64.wrap x+IntKind.u64.wrap y)+IntKind.u64.wrap c)
theorem ZjA(x y c:Int):Z7(Zn(Zi Tryz.prog Zf Zo true) 100 147 [uu x,uu y,uu c] [])(.tuple #[uu(IntKind.u32.wrap(Zqe x y c)),uu(IntKind.u32.wrap((Zqe x y c).fdiv(2^min((32:Int).toNat) 64)))]) [(decide((32:Int)<0),false)]:=⟨by kernel_rfl,by kernel_rfl,by kernel_rfl,by kernel_rfl⟩
theorem ZoE(n:Int):IntKind.u64.wrap n=n % 18446744073709551616:=by simp [IntKind.wrap,IntKind.bits,IntKind.signed]
theorem ZgV(n:Int):IntKind.u32.wrap n=n % 4294967296:=by simp [IntKind.wrap,IntKind.bits,IntKind.signed]
def Zmh:Ans:=fun vals s=>
 match vals with
 | [.int .u32 x,.int .u32 y,.int .u32 c]=>some(Z00 x y c,s,[(wd4 x y c,true)])
 | _=>none
theorem Zmi:ZT 147 Zmh:=by
 intro vals s v s' lg h hl w
 unfold Zmh at h
 split at h
 ·rename_i x y c
  cases h
  have hr:=hl _(List.mem_singleton.2 rfl)
  simp only[wd4,decide_eq_true_eq] at hr
  have e:Zqe x y c=x+y+c:=by
   unfold Zqe
   rw[ZoE,ZoE,ZoE,ZoE,ZoE]
   omega
  have e2:(2:Int)^min((32:Int).toNat) 64=4294967296:=rfl
  have:=Zc(Zk Zd)(ZjA x y c)(Zu(by rfl))(by rfl)(by rfl) w
  rw[e,e2,ZgV,ZgV,Int.fdiv_eq_ediv_of_nonneg _(by omega),Int.emod_eq_of_lt(a:=(x+y+c)/4294967296)(by omega)(by omega)] at this
  exact this
 ·cases h
end Go.Proofs.YtjlponbdflkbjaaGreatDoor.Na
namespace Go.Nt
def vN:List Int→Int
 | []=>0
 | x::r=>x+4294967296*vN r
def dg:Nat→Int→List Int
 | 0,_=>[]
 | m+1,V=>V % 4294967296::dg m(V/4294967296)
def wds(L:List Int):Prop:=∀ x∈L,0≤x∧x<4294967296
theorem ZU:∀ (m:Nat)(V:Int),(dg m V).length=m
 | 0,_=>rfl
 | m+1,V=>by simp [dg,ZU m]
theorem Za2:∀ (m:Nat)(V:Int),wds(dg m V)
 | 0,_=>fun x hx=>by cases hx
 | m+1,V=>fun x hx=>by
  simp only[dg,List.mem_cons] at hx
  rcases hx with rfl | hx
  ·omega
  ·exact Za2 m _ x hx
theorem Zah{x:Int}{L:List Int}(h:wds(x::L)):(0≤x∧x<4294967296)∧wds L:=⟨h x List.mem_cons_self,fun y hy=>h y(List.mem_cons_of_mem _ hy)⟩
theorem Zf9:∀ L:List Int,wds L→dg L.length(vN L)=L
 | [],_=>rfl
 | x::r,h=>by
  obtain⟨h1,h2⟩:=Zah h
  have ih:=Zf9 r h2
  simp only[List.length_cons,dg,vN]
  have e1:(x+4294967296*vN r) % 4294967296=x:=by omega
  have e2:(x+4294967296*vN r)/4294967296=vN r:=by omega
  rw[e1,e2,ih]
theorem pw(k:Nat):(4294967296:Int)^(k+1)=4294967296*4294967296^k:=by rw[Int.pow_succ,Int.mul_comm]
theorem Zay(k:Nat):(0:Int)<4294967296^k:=Int.pow_pos(by omega)
theorem Zqf{i j:Nat}(h:i≤j):(4294967296:Int)^i≤4294967296^j:=by
 have h1:∀ k:Nat,((4294967296^k:Nat):Int)=4294967296^k:=fun k=>by simp
 rw[← h1,← h1]
 have:=Nat.pow_le_pow_right(n:=4294967296)(by omega) h
 omega
theorem ZaK:∀ L:List Int,wds L→0≤vN L∧vN L<4294967296^L.length
 | [],_=>by simp [vN]
 | x::r,h=>by
  obtain⟨h1,h2⟩:=Zah h
  have ih:=ZaK r h2
  simp only[List.length_cons,vN]
  rw[pw]
  omega
theorem zu:∀ (L:List Int)(d:Int),vN(L++[d])=vN L+4294967296^L.length*d
 | [],d=>by simp [vN]
 | x::r,d=>by
  have ih:=zu r d
  simp only[List.cons_append,vN,List.length_cons]
  rw[ih,pw,Int.mul_assoc,Int.mul_add]
  omega
theorem ZsY:∀ (L M:List Int),vN(L++M)=vN L+4294967296^L.length*vN M
 | [],M=>by simp [vN]
 | x::r,M=>by
  have ih:=ZsY r M
  simp only[List.cons_append,vN,List.length_cons]
  rw[ih,pw,Int.mul_assoc,Int.mul_add]
  omega
theorem Zai{L M:List Int}(h1:wds L)(h2:wds M):wds(L++M):=fun x hx=>by
 rcases List.mem_append.1 hx with hx | hx
 ·exact h1 x hx
 ·exact h2 x hx
end Go.Nt
namespace Go.Proofs.YtjlponbdflkbjaaGreatDoor.Na
open Go.KRun Go.Nt
set_option maxRecDepth 100000
def ZsZ:Con:=alt 147 Zmh Zo
theorem Zvd:ConOk ZsZ:=ZA Tryz.func147 rfl Zmi Zd
def sn(k:Nat)(F:Func):Code:=match k with | 0=>Zt F | k+1=>Z0(sn k F)
def nP(n:Nat):Int:=IntKind.i64.wrap((n:Int)+1)
def cpy(la:List Value)(o n:Nat):List Value:=(List.replicate(nP n).toNat(uu 0)).take 0++(la.drop o).take(Nat.min n(nP n).toNat)++(List.replicate(nP n).toNat(uu 0)).drop(0+Nat.min n(nP n).toNat)
def h3(la lb S:List Value):Hp:=⟨3,[(S,tU),(lb,tR),(la,tR)]⟩
def Z49(la:List Value)(o n:Nat):Bool:= !(Zal tR) && !(ro tU) && Nat.ble(o+Nat.min n(nP n).toNat) la.length && Nat.ble(0+Nat.min n(nP n).toNat)(List.replicate(nP n).toNat(uu 0)).length && ((la.drop o).take(Nat.min n(nP n).toNat)).all one
theorem Z01{n:Nat}(h:n≤8192):nP n=((n+1:Nat):Int):=by unfold nP;rw[Zw(by omega)(by omega)];omega
theorem Zi6{n:Nat}(h:n≤8192):(nP n).toNat=n+1:=by rw[Z01 h,Int.toNat_natCast]
theorem Zmj{la:List Value}{o:Nat}{L:List Int}(hR:Row la o L)(h:L.length≤8192):cpy la o L.length=wU(L++[0]):=by
 unfold cpy
 rw[Zi6 h,show Nat.min L.length(L.length+1)=L.length from by simp]
 have e1:(la.drop o).take L.length=wU L:=hR.cut
 rw[e1,Nat.zero_add,List.take_zero,List.nil_append,List.drop_replicate,show L.length+1-L.length=1 from by omega]
 unfold wU uu
 simp
theorem Zmk{la:List Value}{o:Nat}{L:List Int}(hR:Row la o L)(h:L.length≤8192):Z49 la o L.length=true:=by
 unfold Z49
 rw[Zi6 h,show Nat.min L.length(L.length+1)=L.length from by simp]
 have e1:(la.drop o).take L.length=wU L:=hR.cut
 rw[e1,Zbq,show ro tU=false from by kernel_rfl]
 have h1:Nat.ble(o+L.length) la.length=true:=Nat.ble_eq_true_of_le hR.len
 have h2:Nat.ble(0+L.length)(List.replicate(L.length+1)(uu 0)).length=true:=Nat.ble_eq_true_of_le(by simp)
 have h3:((wU L).all one)=true:=by
  unfold wU
  rw[List.all_eq_true]
  intro v hv
  obtain⟨x,_,rfl⟩:=List.mem_map.1 hv
  rfl
 rw[h1,h2,h3]
 rfl
theorem Z02{n:Nat}(h:n≤8192):ZL 4(nP n)(nP n)=true:=by
 rw[Z01 h]
 exact decide_eq_true(by omega)
theorem Zta{L:List Int}(h:wds L){c:Nat}(hc:L.length≤c)(h2:ZB c=true):Z8 tU(wU L) 0 L.length c=true∧Zy(wU L) 0 L.length=L:=by
 have e1:Zb5(wU L) 0 L.length=wU L:=by
  unfold Zb5
  rw[List.drop_zero]
  exact List.take_of_length_le(by unfold wU;simp)
 have e2:Zy(wU L) 0 L.length=L:=by
  unfold Zy
  rw[e1]
  unfold wU
  rw[List.map_map]
  exact(List.map_congr_left fun x _=>rfl).trans(List.map_id' _)
 refine⟨?_,e2⟩
 unfold Z8
 rw[e1,h2,show Zal tU=false from by kernel_rfl,show Nat.beq(rt tU) tU=true from by kernel_rfl,Nat.ble_eq_true_of_le(show 0+L.length≤(wU L).length by unfold wU;simp),Nat.ble_eq_true_of_le hc]
 have h3:((wU L).all isU)=true:=by
  unfold wU
  rw[List.all_eq_true]
  intro v hv
  obtain⟨x,hx,rfl⟩:=List.mem_map.1 hv
  exact decide_eq_true(h x hx)
 have h4:((wU L).all still)=true:=by
  unfold wU
  rw[List.all_eq_true]
  intro v hv
  obtain⟨x,_,rfl⟩:=List.mem_map.1 hv
  rfl
 rw[h3,h4]
 rfl
theorem Zc8{L:List Int}(h:ZX L=false):L.length≤8192:=by
 unfold ZX at h
 simp only[Bool.or_eq_false_iff,decide_eq_false_iff_not] at h
 omega
theorem Zdc(L:List Int):∀ u∈wU L,lt1 0 u=true:=fun u hu=>by
 unfold wU at hu
 obtain⟨x,_,rfl⟩:=List.mem_map.1 hu
 rfl
theorem Zed:ro tU=false:=by kernel_rfl
def bnt(z:Int):Int:=IntKind.u32.wrap((BitVec.ofInt 32 4294967295 ^^^ BitVec.ofInt 32 z).toNat:Nat)
def bnd(x y:Int):Int:=IntKind.u32.wrap((BitVec.ofInt 32 x &&& BitVec.ofInt 32 y).toNat:Nat)
def bxr(x y:Int):Int:=IntKind.u32.wrap((BitVec.ofInt 32 x ^^^ BitVec.ofInt 32 y).toNat:Nat)
def brr(x y:Int):Int:=IntKind.u32.wrap((BitVec.ofInt 32 x ||| BitVec.ofInt 32 y).toNat:Nat)
def Z03(x y c:Int):Int:=IntKind.u32.wrap(IntKind.u32.wrap(x-y)-c)
def Z5J(x y c:Int):Int:=(brr(bnd(bnt x) y)(bnd(bnt(bxr x y))(Z03 x y c))).fdiv(2^min((31:Int).toNat) 32)
theorem ZjB(x y c:Int):Z7(Zn(Zi Tryz.prog Zf Zo true) 100 146 [uu x,uu y,uu c] [])(.tuple #[uu(Z03 x y c),uu(Z5J x y c)]) [(decide((31:Int)<0),false)]:=⟨by kernel_rfl,by kernel_rfl,by kernel_rfl,by kernel_rfl⟩
theorem ZjC(v:BitVec 32):BitVec.ofInt 32(IntKind.u32.wrap(v.toNat:Nat))=v:=by
 rw[ZgV]
 have h:=v.isLt
 apply BitVec.eq_of_toNat_eq
 simp
 omega
theorem Zqg(v:BitVec 32):IntKind.u32.wrap(v.toNat:Nat)=v.toNat:=by
 rw[ZgV]
 have h:=v.isLt
 omega
theorem Zve(v:BitVec 32):v.toNat/2147483648=if v.getLsbD 31=true then 1 else 0:=by
 have h:=v.isLt
 unfold BitVec.getLsbD
 rw[Nat.testBit_eq_decide_div_mod_eq]
 have e:(2:Nat)^31=2147483648:=rfl
 rw[e]
 by_cases h1:v.toNat/2147483648 % 2=1
 ·rw[decide_eq_true h1]
  simp
  omega
 ·rw[decide_eq_false h1]
  simp
  omega
theorem Zi7{x:Int}(h0:0≤x)(h1:x<4294967296):(BitVec.ofInt 32 x).getLsbD 31=decide(2147483648≤x):=by
 have e:(BitVec.ofInt 32 x).toNat=x.toNat:=by simp;omega
 unfold BitVec.getLsbD
 rw[e,Nat.testBit_eq_decide_div_mod_eq]
 have e2:(2:Nat)^31=2147483648:=rfl
 rw[e2]
 by_cases h:2147483648≤x
 ·rw[decide_eq_true h]
  exact decide_eq_true(by omega)
 ·rw[decide_eq_false h]
  exact decide_eq_false(by omega)
def Zg6(x y c:Int):Int:=(x-y-c) % 4294967296
def ZjD(x y c:Int):Int:=if x<y+c then 1 else 0
theorem Zqh{x y c:Int}(hx:0≤x∧x<4294967296)(hy:0≤y∧y<4294967296)(hc:0≤c∧c≤1):Z03 x y c=Zg6 x y c∧Z5J x y c=ZjD x y c:=by
 have e1:Z03 x y c=Zg6 x y c:=by
  unfold Z03 Zg6
  rw[ZgV,ZgV]
  omega
 refine⟨e1,?_⟩
 have d0:0≤Zg6 x y c∧Zg6 x y c<4294967296:=by unfold Zg6;omega
 unfold Z5J
 rw[e1]
 unfold brr bnd bnt bxr
 simp only[ZjC]
 rw[Zqg,show(2:Int)^min((31:Int).toNat) 32=2147483648 from rfl,Int.fdiv_eq_ediv_of_nonneg _(by omega)]
 have key:=Zve((BitVec.ofInt 32 4294967295 ^^^ BitVec.ofInt 32 x) &&& BitVec.ofInt 32 y ||| (BitVec.ofInt 32 4294967295 ^^^ (BitVec.ofInt 32 x ^^^ BitVec.ofInt 32 y)) &&& BitVec.ofInt 32(Zg6 x y c))
 simp only[BitVec.getLsbD_or,BitVec.getLsbD_and,BitVec.getLsbD_xor,Zi7 hx.1 hx.2,Zi7 hy.1 hy.2,Zi7 d0.1 d0.2,Zi7(x:=4294967295)(by omega)(by omega)] at key
 rw[show decide((2147483648:Int)≤4294967295)=true from rfl] at key
 generalize hV:((BitVec.ofInt 32 4294967295 ^^^ BitVec.ofInt 32 x) &&& BitVec.ofInt 32 y ||| (BitVec.ofInt 32 4294967295 ^^^ (BitVec.ofInt 32 x ^^^ BitVec.ofInt 32 y)) &&& BitVec.ofInt 32(Zg6 x y c)).toNat=V at*
 have cast:((V:Nat):Int)/2147483648=((V/2147483648:Nat):Int):=by omega
 rw[cast,key]
 unfold ZjD
 unfold Zg6 at*
 by_cases a1:2147483648≤x<;>by_cases a2:2147483648≤y<;>by_cases a3:2147483648≤(x-y-c) % 4294967296<;>simp only[a1,a2,a3,decide_true,decide_false]<;>split<;>split<;>simp_all<;>omega
def Z04(x y c:Int):Value:= .tuple #[uu(Zg6 x y c),uu(ZjD x y c)]
def Zml:Ans:=fun vals s=>
 match vals with
 | [.int .u32 x,.int .u32 y,.int .u32 c]=>some(Z04 x y c,s,[(wd4 x y c,true)])
 | _=>none
theorem Zmm:ZT 146 Zml:=by
 intro vals s v s' lg h hl w
 unfold Zml at h
 split at h
 ·rename_i x y c
  cases h
  have hr:=hl _(List.mem_singleton.2 rfl)
  simp only[wd4,decide_eq_true_eq] at hr
  obtain⟨e1,e2⟩:=Zqh hr.1 hr.2.1 hr.2.2
  have:=Zc(Zk Zd)(ZjB x y c)(Zu(by rfl))(by rfl)(by rfl) w
  rw[e1,e2] at this
  exact this
 ·cases h
def Ztb:Con:=alt 146 Zml Zo
theorem Zvf:ConOk Ztb:=ZA Tryz.func146 rfl Zmm Zd
def cpS(la:List Value)(o n:Nat):List Value:=(List.replicate((n:Int)).toNat(uu 0)).take 0++(la.drop o).take(Nat.min n((n:Int)).toNat)++(List.replicate((n:Int)).toNat(uu 0)).drop(0+Nat.min n((n:Int)).toNat)
def Z5K(la:List Value)(o n:Nat):Bool:= !(Zal tR) && !(ro tU) && Nat.ble(o+Nat.min n((n:Int)).toNat) la.length && Nat.ble(0+Nat.min n((n:Int)).toNat)(List.replicate((n:Int)).toNat(uu 0)).length && ((la.drop o).take(Nat.min n((n:Int)).toNat)).all one
end Go.Proofs.YtjlponbdflkbjaaGreatDoor.Na
namespace Go.Nt
theorem Zg7{L:List Int}(h:wds L)(h0:0<L.length)(ht:L.getD(L.length-1) 0≠0):4294967296^(L.length-1)≤vN L:=by
 induction L with
 | nil=>simp at h0
 | cons x r ih=>
  obtain⟨h1,h2⟩:=Zah h
  cases r with
  | nil=>
   simp at ht ⊢
   simp [vN]
   omega
  | cons y r=>
   have:=ih h2(by simp)(by simpa using ht)
   simp only[List.length_cons,Nat.add_sub_cancel] at this ⊢
   rw[pw]
   have e:vN(x::y::r)=x+4294967296*vN(y::r):=rfl
   rw[e]
   omega
theorem Zaz{L:List Int}{k:Nat}(h:k<L.length):L.take(k+1)=L.take k++[L.getD k 0]:=by
 rw[List.take_add_one,List.getElem?_eq_getElem h]
 simp [List.getD,List.getElem?_eq_getElem h]
theorem Zc9{L:List Int}(h:wds L)(k:Nat):wds(L.take k):=fun x hx=>h x(List.mem_of_mem_take hx)
theorem ZeX{L M:List Int}(hL:wds L)(hM:wds M):∀ k,k≤L.length→k≤M.length→(Zan L M k<0↔vN(L.take k)<vN(M.take k))∧(Zan L M k=0↔vN(L.take k)=vN(M.take k))
 | 0,_,_=>by simp [Zan,vN]
 | k+1,h1,h2=>by
  have ih:=ZeX hL hM k(by omega)(by omega)
  have bL:=ZaK(L.take k)(Zc9 hL k)
  have bM:=ZaK(M.take k)(Zc9 hM k)
  have lL:(L.take k).length=k:=by simp;omega
  have lM:(M.take k).length=k:=by simp;omega
  rw[lL] at bL
  rw[lM] at bM
  rw[Zaz(by omega:k<L.length),Zaz(by omega:k<M.length),zu,zu,lL,lM]
  simp only[Zan]
  generalize L.getD k 0=x
  generalize M.getD k 0=y
  have hp:=Zay k
  by_cases hxy:x=y
  ·subst hxy
   rw[if_pos rfl]
   omega
  ·rw[if_neg hxy]
   by_cases hlt:x<y
   ·rw[if_pos hlt]
    have:4294967296^k*x+4294967296^k≤4294967296^k*y:=by
     have:=Int.mul_le_mul_of_nonneg_left(show x+1≤y by omega)(Int.le_of_lt hp)
     rw[Int.mul_add,Int.mul_one] at this
     exact this
    omega
   ·rw[if_neg hlt]
    have:4294967296^k*y+4294967296^k≤4294967296^k*x:=by
     have:=Int.mul_le_mul_of_nonneg_left(show y+1≤x by omega)(Int.le_of_lt hp)
     rw[Int.mul_add,Int.mul_one] at this
     exact this
    omega
def Zbi(L:List Int):Prop:=wds L∧(L.length=0∨L.getD(L.length-1) 0≠0)
theorem Zi8{L M:List Int}(hL:Zbi L)(hM:Zbi M):(Zci L M<0↔vN L<vN M)∧(Zci L M=0↔vN L=vN M):=by
 obtain⟨wL,tL⟩:=hL
 obtain⟨wM,tM⟩:=hM
 unfold Zci
 by_cases hl:L.length=M.length
 ·rw[if_pos hl]
  have:=ZeX wL wM L.length(Nat.le_refl _)(by omega)
  rw[List.take_length,hl,List.take_length] at this
  rw[hl]
  exact this
 ·rw[if_neg hl]
  have bL:=ZaK L wL
  have bM:=ZaK M wM
  by_cases hlt:L.length<M.length
  ·rw[if_pos hlt]
   have h1:=Zg7 wM(by omega)(by rcases tM with h | h;omega;exact h)
   have h2:=Zqf(show L.length≤M.length-1 by omega)
   omega
  ·rw[if_neg hlt]
   have h1:=Zg7 wL(by omega)(by rcases tL with h | h;omega;exact h)
   have h2:=Zqf(show M.length≤L.length-1 by omega)
   omega
end Go.Nt
namespace Go.Proofs.YtjlponbdflkbjaaGreatDoor.Na
open Go.KRun Go.Nt
set_option maxRecDepth 100000
theorem Zg8{x y c:Int}(hx:0≤x∧x<4294967296)(hy:0≤y∧y<4294967296)(hc:0≤c∧c≤1):(0≤Zg6 x y c∧Zg6 x y c<4294967296)∧(0≤ZjD x y c∧ZjD x y c≤1)∧x-y-c=Zg6 x y c-4294967296*ZjD x y c:=by
 unfold Zg6 ZjD
 split<;>omega
theorem Ztc{la:List Value}{o:Nat}{L:List Int}(hR:Row la o L):cpS la o L.length=wU L:=by
 unfold cpS
 rw[Int.toNat_natCast,show Nat.min L.length L.length=L.length from by simp]
 have e1:(la.drop o).take L.length=wU L:=hR.cut
 rw[e1,Nat.zero_add,List.take_zero,List.nil_append,List.drop_replicate,Nat.sub_self]
 simp
theorem Zvg{la:List Value}{o:Nat}{L:List Int}(hR:Row la o L):Z5K la o L.length=true:=by
 unfold Z5K
 rw[Int.toNat_natCast,show Nat.min L.length L.length=L.length from by simp]
 have e1:(la.drop o).take L.length=wU L:=hR.cut
 rw[e1,Zbq,Zed]
 have h1:Nat.ble(o+L.length) la.length=true:=Nat.ble_eq_true_of_le hR.len
 have h2:Nat.ble(0+L.length)(List.replicate L.length(uu 0)).length=true:=Nat.ble_eq_true_of_le(by simp)
 have h3:((wU L).all one)=true:=by
  unfold wU
  rw[List.all_eq_true]
  intro v hv
  obtain⟨x,_,rfl⟩:=List.mem_map.1 hv
  rfl
 rw[h1,h2,h3]
 rfl
theorem ZeY{L:List Int}(hw:wds L)(h:ZX L=false):Zbi L:=by
 unfold ZX at h
 simp only[Bool.or_eq_false_iff,decide_eq_false_iff_not,Bool.and_eq_false_iff,beq_eq_false_iff_ne,ne_eq] at h
 refine⟨hw,?_⟩
 rcases h.2 with h | h
 ·exact .inl(by omega)
 ·exact .inr h
theorem Zmn{L M:List Int}(hL:Zbi L)(hM:Zbi M)(h:vN M≤vN L):M.length≤L.length:=by
 rcases Nat.lt_or_ge L.length M.length with hlt | hge
 ·exfalso
  have h1:=Zg7 hM.1(by omega)(by rcases hM.2 with h | h;omega;exact h)
  have h2:=Zqf(show L.length≤M.length-1 by omega)
  have:=ZaK L hL.1
  omega
 ·exact hge
end Go.Proofs.YtjlponbdflkbjaaGreatDoor.Na
namespace Go.Proofs.YtjlponbdflkbjaaGreatDoor
open Go.KRun Go.Nt
set_option maxRecDepth 100000
def Z5L(F:Func):List Code:=[Z5(Zt F),Z5(Z0(Zt F))]
def Zmo(F:Func):Code:=cIn(cIn(Z5(Z0(Z0(Zt F)))))
def Z4A(F:Func):Code:=Z0(Z0(Z0(Zt F)))
theorem ZjE:Tryz.f88.body=some(za(Z5L Tryz.f88)(.seq(.block 0(.loop(Zmo Tryz.f88)))(Z4A Tryz.f88))):=by kernel_rfl
theorem Zvh(p:Option Addr)(n c:Nat)(h:Hp):Zg(evL(Zi Tryz.prog Zf Zo true) 100(Z5L Tryz.f88)([.slice p n c]++List.replicate 21 undef,h,[])⟨[],[],[]⟩) 4 18 none [.slice p n c,undef,Zq,.int .i64 n] h []:=⟨by kernel_rfl,by kernel_rfl,by kernel_rfl⟩
def i1(k:Int):Int:=IntKind.i64.wrap(k-1)
theorem Z05(o n c:Nat)(k x:Int)(l:List Value)(j1 j2:Value)(g:Nat→Value):Zg(evC(Zi Tryz.prog Zf Zo true) 100 false(Zmo Tryz.f88)([sl 0 o n c,j1,j2,.int .i64 k]++tl 18 g,⟨1,[(l,tR)]⟩,[cmp true,at_,val(.int .u32 x),cmp true])⟨[],[],[]⟩) 4 18 none [sl 0 o n c,j1,j2,.int .i64(i1 k)]⟨1,[(l,tR)]⟩
  [(x==0,true),(Z6(l[o+(i1 k).toNat*1]?)(.int .u32 x),true),(decide(0≤i1 k∧i1 k<n),true),(decide(k>0),true)]:=⟨by kernel_rfl,by kernel_rfl,by kernel_rfl⟩
theorem Zqi(o n c:Nat)(k x:Int)(l:List Value)(j1 j2:Value)(g:Nat→Value):Zg(evC(Zi Tryz.prog Zf Zo true) 100 false(Zmo Tryz.f88)([sl 0 o n c,j1,j2,.int .i64 k]++tl 18 g,⟨1,[(l,tR)]⟩,[cmp true,at_,val(.int .u32 x),cmp false])⟨[],[],[]⟩) 4 18(some(some 0)) [sl 0 o n c,j1,j2,.int .i64 k]⟨1,[(l,tR)]⟩
  [(x==0,false),(Z6(l[o+(i1 k).toNat*1]?)(.int .u32 x),true),(decide(0≤i1 k∧i1 k<n),true),(decide(k>0),true)]:=⟨by kernel_rfl,by kernel_rfl,by kernel_rfl⟩
theorem Zqj(v:Value)(k:Int)(h:Hp)(j1 j2:Value)(g:Nat→Value):Zg(evC(Zi Tryz.prog Zf Zo true) 100 false(Zmo Tryz.f88)([v,j1,j2,.int .i64 k]++tl 18 g,h,[cmp false])⟨[],[],[]⟩) 4 18(some(some 0)) [v,j1,j2,.int .i64 k] h [(decide(k>0),false)]:=⟨by kernel_rfl,by kernel_rfl,by kernel_rfl⟩
theorem Zvi(o n c k:Nat)(l:List Value)(j1 j2:Value)(g:Nat→Value):Zg(evC(Zi Tryz.prog Zf Zo true) 100 false(Z4A Tryz.f88)([sl 0 o n c,j1,j2,.int .i64 k]++tl 18 g,⟨1,[(l,tR)]⟩,[num 0])⟨[],[],[]⟩) 4 18(some none) [sl 0 o n c,j1,sl 0 o k k,.int .i64 k]⟨1,[(l,tR)]⟩
  [(ZB c,true),(ZS 0 k k c,true),(decide((k:Int)=0∧(0:Int)≠0),false)]:=⟨by kernel_rfl,by kernel_rfl,by kernel_rfl⟩
theorem Zqk(n k:Nat)(l:List Value)(j1 j2:Value)(g:Nat→Value):Zg(evC(Zi Tryz.prog Zf Zo true) 100 false(Z4A Tryz.f88)([sl 0 0 n grown,j1,j2,.int .i64 k]++tl 18 g,⟨1,[(l,tR)]⟩,[at_])⟨[],[],[]⟩) 4 18(some none) [sl 0 0 n grown,j1,sl 0 0 k k,.int .i64 k]⟨1,[(l,tR)]⟩
  [(ZS 0 k k n,true),(decide((k:Int)=0∧(0:Int)≠0),false),(!(Zal tR) && Nat.ble n l.length,true)]:=⟨by kernel_rfl,by kernel_rfl,by kernel_rfl⟩
def Zdd(o n c:Nat):Bool:=(ZB c && Nat.ble n c) || (Nat.beq c grown && Nat.beq o 0)
theorem ZjF{l:List Value}{o c:Nat}{L:List Int}(hR:Row l o L)(hL:L.length<4611686018427387904)(hc:Zdd o L.length c=true):
  Runs(Zi Tryz.prog Zf Zo true)(za(Z5L Tryz.f88)(.seq(.block 0(.loop(Zmo Tryz.f88)))(Z4A Tryz.f88)))([sl 0 o L.length c]++List.replicate 21 undef,⟨1,[(l,tR)]⟩,[]) fun e y=>(e=none∨e=some none)∧ZZ Tryz.prog Tryz.f88 y.1 y.2.1=some(sl 0 o(Zm L)(Zm L)):=by
 refine Zx(Zk Zd)(Zvh _ _ _ _)(fun x hx=>by cases hx) fun g=> ?_
 refine Runs.seq(P1:=fun e y=>e=none∧(∃ g,y.1=[sl 0 o L.length c,undef,Zq,.int .i64(Zm L:Nat)]++tl 18 g)∧y.2.1=⟨1,[(l,tR)]⟩) ?_ ?_(fun e y he=>by cases he.1)
 ·refine(Runs.forLoop(P:=fun y=>(∃ g,y.1=[sl 0 o L.length c,undef,Zq,.int .i64(Zm L:Nat)]++tl 18 g)∧y.2.1=⟨1,[(l,tR)]⟩)(R:=fun _=>False)(fun n y=>(∃ g,y.1=[sl 0 o L.length c,undef,Zq,.int .i64(n:Nat)]++tl 18 g)∧y.2.1=⟨1,[(l,tR)]⟩∧n≤L.length∧∀ i,n≤i→L.getD i 0=0) ?_(n:=L.length)⟨⟨g,rfl⟩,rfl,Nat.le_refl _,fun i hi=>by simp [List.getD,List.getElem?_eq_none hi]⟩).mono fun e y he=> ?_
  ·rintro n⟨t,h',s⟩⟨⟨g,ht⟩,hh,hle,hz⟩
   simp only at ht hh
   subst ht hh
   cases n with
   | zero=>
    refine(Zb(Zk Zd)(Zqj _ _ _ undef Zq g)(Zu(by rfl))).mono fun e y he=> ?_
    obtain⟨rfl,⟨g',h2⟩,h3⟩:=he
    have e0:Zm L=0:=ZbT hz(.inl rfl)
    exact⟨rfl,⟨g',by rw[h2,e0]⟩,h3⟩
   | succ k=>
    have ek:i1((k+1:Nat):Int)=(k:Int):=by
     unfold i1
     rw[Zw(by omega)(by omega)]
     omega
    have hcell:=hR.cell(k:=k)(by omega)
    have hce:Z6(l[o+(i1((k+1:Nat):Int)).toNat*1]?)(.int .u32(L.getD k 0))=true:=by
     rw[ek,Int.toNat_natCast,Nat.mul_one,hcell]
     simp [Z6]
    have hix:decide(0≤i1((k+1:Nat):Int)∧i1((k+1:Nat):Int)<(L.length:Int))=true:=by rw[ek];exact decide_eq_true(by omega)
    have hgt:decide(((k+1:Nat):Int)>0)=true:=decide_eq_true(by omega)
    by_cases hx:L.getD k 0=0
    ·refine(Zb(Zk Zd)(Z05 o L.length c((k+1:Nat):Int)(L.getD k 0) l undef Zq g)(Zj(by rw[hx];rfl)(Zj hce(Zj hix(Zu hgt))))).mono fun e y he=> ?_
     obtain⟨rfl,⟨g',h2⟩,h3⟩:=he
     rw[ek] at h2
     refine⟨k,by omega,⟨g',h2⟩,h3,by omega,fun i hi=> ?_⟩
     rcases Nat.lt_or_ge k i with h | h
     ·exact hz i h
     ·have:i=k:=by omega
      rw[this];exact hx
    ·refine(Zb(Zk Zd)(Zqi o L.length c((k+1:Nat):Int)(L.getD k 0) l undef Zq g)(Zj(by simpa using hx)(Zj hce(Zj hix(Zu hgt))))).mono fun e y he=> ?_
     obtain⟨rfl,⟨g',h2⟩,h3⟩:=he
     have e0:Zm L=k+1:=ZbT hz(.inr(by simpa using hx))
     exact⟨rfl,⟨g',by rw[h2,e0]⟩,h3⟩
  ·match e,he with
   | none,he=>exact⟨rfl,he⟩
 ·rintro⟨t,h',s⟩⟨_,⟨g',ht⟩,hh⟩
  simp only at ht hh
  subst ht hh
  have hle:=Za4 L
  have hp:ZS 0(Zm L:Nat)(Zm L:Nat)(L.length:Nat)=true:=by unfold ZS;exact decide_eq_true(by omega)
  unfold Zdd at hc
  simp only[Bool.or_eq_true,Bool.and_eq_true] at hc
  rcases hc with⟨h1,h2⟩ | ⟨h1,h2⟩
  ·have h2:=Nat.le_of_ble_eq_true h2
   have h1':c<4611686018427387904:=Zp.1 h1
   refine(Zb(Zk Zd)(Zvi o L.length c(Zm L) l undef Zq g')(Zj h1(Zj(by unfold ZS;exact decide_eq_true(by omega))(Zu(decide_eq_false(by omega)))))).mono fun e y he=> ?_
   obtain⟨rfl,⟨g2,h2⟩,h3⟩:=he
   refine⟨.inr rfl,?_⟩
   rw[h2,h3]
   rfl
  ·have h1:=Nat.eq_of_beq_eq_true h1
   have h2:=Nat.eq_of_beq_eq_true h2
   subst h1 h2
   have hlen:=hR.len
   refine(Zb(Zk Zd)(Zqk L.length(Zm L) l undef Zq g')(Zj hp(Zj(decide_eq_false(by omega))(Zu(by
    rw[Zbq,Nat.ble_eq_true_of_le(by omega)];rfl))))).mono fun e y he=> ?_
   obtain⟨rfl,⟨g2,h2⟩,h3⟩:=he
   refine⟨.inr rfl,?_⟩
   rw[h2,h3]
   rfl
def Zbr(ty:TypeId)(l:List Value)(o n c:Nat):Bool:= !(Zal ty) && Nat.beq(rt ty) tU && Nat.ble(o+n) l.length && Nat.blt n 4611686018427387904 && Zdd o n c && (Zb5 l o n).all isU && l.all still
theorem zv{ty:TypeId}{l:List Value}{o n c:Nat}(h:Zbr ty l o n c=true):Row l o(Zy l o n)∧(Zy l o n).length=n∧n<4611686018427387904∧Zdd o n c=true∧Zal ty=false∧rt ty=tU∧∀ v∈l,still v=true:=by
 unfold Zbr at h
 simp only[Bool.and_eq_true,Bool.not_eq_true'] at h
 obtain⟨⟨⟨⟨⟨⟨h1,h2⟩,h3⟩,h4⟩,h5⟩,h6⟩,h7⟩:=h
 have h2:=Nat.eq_of_beq_eq_true h2
 have h3:=Nat.le_of_ble_eq_true h3
 have h4:=Zp.1 h4
 have hlen:(Zy l o n).length=n:=by unfold Zy Zb5;simp;omega
 refine⟨⟨by rw[hlen];exact h3,by rw[hlen];exact ZeU h6,fun x hx=> ?_⟩,hlen,h4,h5,h1,h2,List.all_eq_true.1 h7⟩
 unfold Zy at hx
 obtain⟨v,hv,rfl⟩:=List.mem_map.1 hx
 have:=Zf8(List.all_eq_true.1 h6 v hv)
 exact⟨this.2.1,this.2.2⟩
theorem Zmp:Z7(Zn(Zi Tryz.prog Zf Zo true) 100 88 [Zq] []) Zq []:=⟨by kernel_rfl,by kernel_rfl,by kernel_rfl,by kernel_rfl⟩
def Zi9:Zaf:=fun vals h s=>
 match vals with
 | [.slice none 0 0]=>some(Zq,h,s,[])
 | [.slice(some⟨b,o,none⟩) n c]=>
  match h.blk? b with
  | some x=>some(sl b o(Zm(Zy x.1 o n))(Zm(Zy x.1 o n)),h,s,[(Zbr x.2 x.1 o n c,true)])
  | none=>none
 | _=>none
theorem Zg9:Z9 88 Zi9:=by
 intro vals h s v h' s' lg hg hl m B w E hv
 unfold Zi9 at hg
 split at hg
 ·cases hg
  refine(Zc(Zk Zd) Zmp(fun x hx=>by cases hx)(by rfl)(by rfl) w).mono fun e w' he=> ?_
  obtain⟨E',hb⟩:=zf E he.2
  exact⟨m,he.1,⟨Agree.refl _ _,E',hb,Nat.le_refl _,rfl⟩⟩
 ·rename_i b o n c
  split at hg
  ·rename_i x hx
   cases hg
   obtain⟨h1,h2,h3,h4,h5,h6,h7⟩:=zv(hl _(List.mem_singleton.2 rfl))
   have hlt:=Hp.blk_lt hx
   have r:=ZjF(c:=c) h1(by rw[h2];exact h3)(by rw[h2];exact h4)
   rw[h2] at r
   have:=zk(T:=Zi Tryz.prog Zf Zo true) Tryz.func88 ZjE(ZaJ h7)(vals:=[sl 0 o n c])(fun v hv=>by rw[List.mem_singleton.1 hv];rfl)(by rfl) r E(s:=fun _=>b)(fun i _=>hlt)(zO hx h5 h6 rfl)
   exact this.mono fun e w' he=>⟨m,he.1,he.2⟩
  ·cases hg
 ·cases hg
def hcU:Hc:=zS 88 Zi9 hcN
theorem Z06:HcOk hcU:=Z2 Tryz.func88 rfl Zg9 Zam
theorem ZF(L:List Int):∀ v∈wU L,still v=true:=fun v hv=>by
 unfold wU at hv
 obtain⟨x,_,rfl⟩:=List.mem_map.1 hv
 rfl
theorem Ztd(L:List Int):(wU L).all one=true:=List.all_eq_true.2 fun v hv=>by
 unfold wU at hv
 obtain⟨x,_,rfl⟩:=List.mem_map.1 hv
 rfl
theorem ZY(L M:List Int):wU(L++M)=wU L++wU M:=by simp [wU]
theorem Zaj(L:List Int):(wU L).length=L.length:=by simp [wU]
theorem ZaQ(L:List Int):Zy(wU L) 0 L.length=L:=by
 unfold Zy Zb5
 rw[List.drop_zero,← Zaj,List.take_length]
 unfold wU
 rw[List.map_map]
 exact List.map_id' _
theorem Zaq{L:List Int}(h:∀ x∈L,0≤x∧x<4294967296)(hl:L.length<4611686018427387904){c:Nat}(hc:Zdd 0 L.length c=true):Zbr tU(wU L) 0 L.length c=true:=by
 unfold Zbr
 have e1:Zal tU=false:=by kernel_rfl
 have e2:Nat.beq(rt tU) tU=true:=by kernel_rfl
 have e3:Nat.ble(0+L.length)(wU L).length=true:=Nat.ble_eq_true_of_le(by rw[Zaj];omega)
 have e4:Nat.blt L.length 4611686018427387904=true:=Zp.2 hl
 have e5:((Zb5(wU L) 0 L.length).all isU)=true:=by
  unfold Zb5
  rw[List.drop_zero,← Zaj,List.take_length]
  refine List.all_eq_true.2 fun v hv=> ?_
  unfold wU at hv
  obtain⟨x,hx,rfl⟩:=List.mem_map.1 hv
  exact decide_eq_true(h x hx)
 have e6:((wU L).all still)=true:=List.all_eq_true.2 fun v hv=>by
  unfold wU at hv
  obtain⟨x,_,rfl⟩:=List.mem_map.1 hv
  rfl
 rw[e1,e2,e3,e4,hc,e5,e6]
 rfl
theorem Zba{L M:List Int}{k:Nat}(hk:k=L.length)(hM:0<M.length)(hb:L.length+M.length≤1073741824):Zac tU(wU L,tU)(wU M,tU) k 0 M.length=true:=by
 subst hk
 unfold Zac
 simp only[Bool.and_eq_true,Bool.not_eq_true',Zaj]
 refine⟨⟨⟨⟨⟨⟨⟨⟨Nat.beq_refl _,Nat.ble_eq_true_of_le hb⟩,by kernel_rfl⟩,by kernel_rfl⟩,by kernel_rfl⟩,by kernel_rfl⟩,Nat.ble_eq_true_of_le(by omega)⟩,Zp.2 hM⟩,?_⟩
 rw[List.drop_zero,← Zaj,List.take_length]
 exact Ztd M
theorem ZyW(n:Nat):Zdd 0 n grown=true:=by unfold Zdd;rw[show Nat.beq grown grown=true from by kernel_rfl,show Nat.beq 0 0=true from rfl];simp
theorem ZiA{L:List Int}{k:Nat}(h:k<L.length):L.getD k 0=L[k]:=by simp [List.getD,List.getElem?_eq_getElem h]
theorem ZgA{T:Tab}{a b c:Code}{x:Lf}{P1 P2 P:Ex→Lf→Prop}(h1:RunsW T a x P1)(n1:∀ e y,P1(some e) y→False)(h2:∀ y,P1 none y→RunsW T b y P2)(n2:∀ e y,P2(some e) y→False)(h3:∀ y,P2 none y→RunsW T c y P):RunsW T(.seq(.seq a b) c) x P:=
 RunsW.seq(P1:=P2)(RunsW.seq(P1:=P1) h1 h2(fun e y he=>(n1 e y he).elim)) h3(fun e y he=>(n2 e y he).elim)
def d16(V:Nat):List Int:=db 65536 V
theorem Zbb(L:List Int):∀ u∈wU L,lt1 0 u=true:=fun v hv=>by
 unfold wU at hv
 obtain⟨x,_,rfl⟩:=List.mem_map.1 hv
 rfl
def Zr(h:Hp)(p:Option Addr)(n:Nat):List Int:=
 match p with
 | none=>[]
 | some a=>
  match h.blk? a.block with
  | some x=>Zy x.1 a.off n
  | none=>[]
def zG(h:Hp)(p:Option Addr)(n c:Nat):Bool:=
 match p with
 | none=>Nat.beq n 0 && Nat.beq c 0
 | some a=>
  match a.spot,h.blk? a.block with
  | none,some x=>Zbr x.2 x.1 a.off n c && x.1.all still
  | _,_=>false
def atN(L:List Int)(i:Int):Int:=if 0≤i then L.getD i.toNat 0 else 0
theorem ZH{h:Hp}{p:Option Addr}{n c:Nat}(hr:zG h p n c=true):(p=none∧n=0∧c=0∧Zr h p n=[])∨∃ b o x,p=some⟨b,o,none⟩∧h.blk? b=some x∧Zbr x.2 x.1 o n c=true∧(∀ v∈x.1,still v=true)∧Zr h p n=Zy x.1 o n:=by
 unfold zG at hr
 split at hr
 ·simp only[Bool.and_eq_true] at hr
  exact .inl⟨rfl,Nat.eq_of_beq_eq_true hr.1,Nat.eq_of_beq_eq_true hr.2,rfl⟩
 ·rename_i a
  split at hr
  ·rename_i x hs hx
   simp only[Bool.and_eq_true] at hr
   obtain⟨b,o,sp⟩:=a
   simp only at hs hx
   subst hs
   exact .inr⟨b,o,x,rfl,hx,hr.1,List.all_eq_true.1 hr.2,by simp [Zr,hx]⟩
  ·cases hr
theorem Zmq:Tryz.f94.body=some(Zt Tryz.f94):=by kernel_rfl
theorem Z5M(o n c:Nat)(i x:Int)(l:List Value):Zg(evC(Zi Tryz.prog Zf Zo true) 100 false(Zt Tryz.f94)([sl 0 o n c,.int .i64 i]++List.replicate 15 undef,⟨1,[(l,tR)]⟩,[cmp true,cmp true,at_,val(.int .u32 x)])⟨[],[],[]⟩) 5 12(some none) [sl 0 o n c,.int .i64 i,undef,undef,.int .u32 x]⟨1,[(l,tR)]⟩ [(Z6(l[o+i.toNat*1]?)(.int .u32 x),true),(decide(0≤i∧i<n),true),(decide(i<n),true),(decide(i≥0),true)]:=⟨by kernel_rfl,by kernel_rfl,by kernel_rfl⟩
theorem Zvj(p:Option Addr)(n c:Nat)(i:Int)(h:Hp):Zg(evC(Zi Tryz.prog Zf Zo true) 100 false(Zt Tryz.f94)([.slice p n c,.int .i64 i]++List.replicate 15 undef,h,[cmp true,cmp false])⟨[],[],[]⟩) 5 12(some none) [.slice p n c,.int .i64 i,undef,undef,.int .u32 0] h [(decide(i<n),false),(decide(i≥0),true)]:=⟨by kernel_rfl,by kernel_rfl,by kernel_rfl⟩
theorem Zql(p:Option Addr)(n c:Nat)(i:Int)(h:Hp):Zg(evC(Zi Tryz.prog Zf Zo true) 100 false(Zt Tryz.f94)([.slice p n c,.int .i64 i]++List.replicate 15 undef,h,[cmp false])⟨[],[],[]⟩) 5 12(some none) [.slice p n c,.int .i64 i,undef,undef,.int .u32 0] h [(decide(i≥0),false)]:=⟨by kernel_rfl,by kernel_rfl,by kernel_rfl⟩
theorem Zmr{p:Option Addr}{n c:Nat}{i:Int}{h:Hp}(hi:i<0∨(n:Int)≤i):Runs(Zi Tryz.prog Zf Zo true)(Zt Tryz.f94)([.slice p n c,.int .i64 i]++List.replicate 15 undef,h,[]) fun e y=>(e=none∨e=some none)∧ZZ Tryz.prog Tryz.f94 y.1 y.2.1=some(.int .u32 0):=by
 by_cases h0:i<0
 ·refine(Zb(Zk Zd)(Zql p n c i h)(Zu(decide_eq_false(by omega)))).mono fun e y he=> ?_
  obtain⟨rfl,⟨g,e2⟩,e3⟩:=he
  refine⟨.inr rfl,?_⟩
  rw[e2,e3]
  rfl
 ·refine(Zb(Zk Zd)(Zvj p n c i h)(Zj(decide_eq_false(by omega))(Zu(decide_eq_true(by omega))))).mono fun e y he=> ?_
  obtain⟨rfl,⟨g,e2⟩,e3⟩:=he
  refine⟨.inr rfl,?_⟩
  rw[e2,e3]
  rfl
theorem Zvk{l:List Value}{o c:Nat}{L:List Int}(i:Int)(hR:Row l o L):
  Runs(Zi Tryz.prog Zf Zo true)(Zt Tryz.f94)([sl 0 o L.length c,.int .i64 i]++List.replicate 15 undef,⟨1,[(l,tR)]⟩,[]) fun e y=>(e=none∨e=some none)∧ZZ Tryz.prog Tryz.f94 y.1 y.2.1=some(.int .u32(atN L i)):=by
 by_cases hi:i<0∨(L.length:Int)≤i
 ·have e0:atN L i=0:=by
   unfold atN
   split
   ·have:L.length≤i.toNat:=by omega
    simp [List.getD,List.getElem?_eq_none this]
   ·rfl
  rw[e0]
  exact Zmr hi
 ·have h0:0≤i:=by omega
  have hlt:i.toNat<L.length:=by omega
  have e0:atN L i=L.getD i.toNat 0:=by unfold atN;rw[if_pos h0]
  rw[e0]
  have hc:=hR.cell hlt
  refine(Zb(Zk Zd)(Z5M o L.length c i(L.getD i.toNat 0) l)(Zj(by rw[Nat.mul_one,hc];simp [Z6])(Zj(decide_eq_true(by omega))(Zj(decide_eq_true(by omega))(Zu(decide_eq_true(by omega))))))).mono fun e y he=> ?_
  obtain⟨rfl,⟨g,e2⟩,e3⟩:=he
  refine⟨.inr rfl,?_⟩
  rw[e2,e3]
  rfl
def gAt:Zaf:=fun vals h s=>
 match vals with
 | [.slice p n c,.int .i64 i]=>some(.int .u32(atN(Zr h p n) i),h,s,[(zG h p n c,true)])
 | _=>none
theorem Zte:Z9 94 gAt:=by
 intro vals h s v h' s' lg hg hl m B w E hv
 unfold gAt at hg
 split at hg
 ·rename_i p n c i
  cases hg
  have q:=hl _(List.mem_singleton.2 rfl)
  simp only at q
  rcases ZH q with⟨rfl,rfl,rfl,e0⟩ | ⟨b,o,x,rfl,hx,q1,_,e0⟩
  ·rw[e0]
   have hz:atN [] i=0:=by unfold atN;split<;>simp
   rw[hz]
   have hi:i<0∨((0:Nat):Int)≤i:=by omega
   refine(ZP(T:=Zi Tryz.prog Zf Zo true) Tryz.func94 Zmq(vals:=[Zq,.int .i64 i])(v:= .int .u32 0)(by rfl)(by rfl)(Zmr(p:=none)(n:=0)(c:=0)(i:=i)(h:=⟨0,[]⟩) hi) w).mono fun e w' he=> ?_
   obtain⟨E',hb⟩:=zf E he.2
   exact⟨m,he.1,⟨Agree.refl _ _,E',hb,Nat.le_refl _,rfl⟩⟩
  ·rw[e0]
   obtain⟨h1,h2,h3,h4,h5,h6,h7⟩:=zv q1
   have hlt:=Hp.blk_lt hx
   have r:=Zvk(c:=c) i h1
   rw[h2] at r
   have:=zk(T:=Zi Tryz.prog Zf Zo true) Tryz.func94 Zmq(ZaJ h7)(vals:=[sl 0 o n c,.int .i64 i])(fun v hv=>by
    simp only[List.mem_cons,List.not_mem_nil,or_false] at hv
    rcases hv with rfl | rfl<;>rfl)(by rfl) r E(s:=fun _=>b)(fun i _=>hlt)(zO hx h5 h6 rfl)
   exact this.mono fun e w' he=>⟨m,he.1,he.2⟩
 ·cases hg
def hcV:Hc:=zS 94 gAt hcU
theorem Zv:HcOk hcV:=Z2 Tryz.func94 rfl Zte Z06
end Go.Proofs.YtjlponbdflkbjaaGreatDoor
namespace Go.KRun
open Go.RowKit
theorem RunsW.keptP{T:Tab}{c:Code}{x0:Lf}{ex:Ex}{front front':List Value}{n k b:Nat}{h:Hp}{base:List(List Value×TypeId)}{y:List Value×TypeId}{r:List Value}(hr:RunsW T c x0 fun e z=>e=ex∧(∃ g,z.1=front++tl n g)∧z.2.1=h)
  (hk:base.length=k)(hf:front'.map(rn(zC k b))=front)(hx:∀ i x,(⟨k,base⟩:Hp).blk? i=some x→h.blk? i=some x∧∀ v∈x.1,still v=true)(hy:h.blk? b=some(y.1++r,y.2))(hb:k≤b)(sy:∀ v∈y.1,still v=true)(hw:∀ v∈front',lt(k+1) v=true):
  RunsW T c x0 fun e z=>e=ex∧(∃ g,z.1=front'++tl n g)∧z.2.1=⟨k+1,y::base⟩:=by
 refine hr.small fun e z he=> .inr ?_
 obtain⟨rfl,⟨g,h1⟩,h2⟩:=he
 obtain⟨t,h',s⟩:=z
 simp only at h1 h2
 subst h1 h2
 refine⟨front,front',tl n g,h',⟨k+1,y::base⟩,s,zC k b,rfl,hf,by simp [hk],Nat.succ_pos _,fun i z hz=> ?_,fun i j u v hi hj _ _ hij=> ?_,hw,fun g'=>⟨rfl,⟨g',by rw[Zgt]⟩,rfl⟩⟩
 ·rcases Zj4 hk hz with⟨hi,hz'⟩ | ⟨rfl,rfl⟩
  ·obtain⟨q1,q2⟩:=hx i z hz'
   exact⟨q2,z,[],by unfold zC;rw[if_pos(Zp.2 hi)];exact q1,rfl,by simp⟩
  ·exact⟨sy,(z.1++r,z.2),r,by unfold zC;rw[if_neg(by rw[Zp];omega)];exact hy,rfl,rfl⟩
 ·unfold zC at hij
  rcases Zj4 hk hi with⟨h1,_⟩ | ⟨rfl,_⟩<;>rcases Zj4 hk hj with⟨h2,_⟩ | ⟨rfl,_⟩
  ·rw[if_pos(Zp.2 h1),if_pos(Zp.2 h2)] at hij;exact hij
  ·rw[if_pos(Zp.2 h1),if_neg(by rw[Zp];omega)] at hij;omega
  ·rw[if_pos(Zp.2 h2),if_neg(by rw[Zp];omega)] at hij;omega
  ·rfl
theorem Zbs{T:Tab}{f:Nat}{F:Func}{c:Code}(hF:T.P.funcs[f]? =some F)(hc:F.body=some c){vals:List Value}{v:Value}{h:Hp}(hv:lt 0 v=true)
  (hr:Runs T c(vals++List.replicate(F.ntmps-vals.length) undef,h,[]) fun e y=>(e=none∨e=some none)∧ZZ T.P F y.1 y.2.1=some v∧y.2.1=h)(m:Mp)(B:Nat)(w:World)(E:Emb m B h w)(hvals:∀ v∈vals,lt h.n v=true):
  Calls T.P f(vals.map(mv m)).toArray w fun e w'=>∃ m',e= .returned(mv m' v)∧Came m B h w v h m' w':=by
 refine calls_of_wp hF hc ?_
 have R:Rel m B(vals++List.replicate(F.ntmps-vals.length) undef,h,[]){tmps:=(vals.map(mv m)).toArray++Array.replicate(F.ntmps-(vals.map(mv m)).toArray.size) undef,defers:=[]} w:=by
  refine⟨?_,rfl,E,?_⟩
  ·simp [zo]
  ·intro y hy
   rcases List.mem_append.1 hy with hy | hy
   ·exact hvals y hy
   ·rw[List.eq_of_mem_replicate hy];simp [undef,lt]
 refine hr _ _ _ w R _ fun e y he a' w' hR=> ?_
 obtain⟨hex,hres,hh⟩:=he
 obtain⟨m1,k1,k2,k3,_⟩:=hR
 obtain⟨r1,r2⟩:=Zae k2.emb k2.wf hres
 rw[← k2.tmps] at r1
 have Ek:Emb m1 B h w':=by
  have:=k2.emb
  rw[hh] at this
  exact this
 have post:a'.defers=[]∧∃ v',(results F a'.tmps).run T.P w'= .ok v' w'∧∃ m',Ending.returned v'= .returned(mv m' v)∧Came m B h w v h m' w':=
  ⟨k2.dfr,_,r1,m1,rfl,⟨k1,Ek,k3,Nat.le_refl _,zT(Nat.zero_le _) hv⟩⟩
 rcases hex with rfl | rfl<;>exact post
theorem ZeZ{T:Tab}{f:Nat}{F:Func}{c:Code}(hF:T.P.funcs[f]? =some F)(hc:F.body=some c){h0:Hp}(hr:h0.rows){vals:List Value}(hvals:∀ v∈vals,lt h0.n v=true){v:Nat→Nat→Value}
  {cs ds:List Value}{ty:TypeId}(hcs:∀ u∈cs,lt1 0 u=true)(hds:∀ u∈ds,lt1 0 u=true)(hty:ro ty=false)
  (hrun:RunsW T c(vals++List.replicate(F.ntmps-vals.length) undef,h0,[]) fun e y=>(e=none∨e=some none)∧∃ k j,k≠j∧ZZ T.P F y.1 y.2.1=some(v k j)∧(∃ r,y.2.1.blk? k=some(cs++r,ty))∧∃ r,y.2.1.blk? j=some(ds++r,ty))
  (hv0:∀ k j,oc [k,j](v k j)=true)
  {m:Mp}{B:Nat}{h:Hp}{w:World}(E:Emb m B h w){s:Nat→Nat}(hf:h0.fits s h)(hv1:∀ k j,∀ g:Nat→Nat,rn g(v k j)=v(g k)(g j)):
  Calls T.P f((vals.map(rn s)).map(mv m)).toArray w fun e w'=>∃ m',e= .returned(mv m'(v h.n(h.n+1)))∧Came m B h w(v h.n(h.n+1))((h.push cs ty).push ds ty) m' w':=by
 have E0:=E.small hr hf
 have ev:(vals.map(rn s)).map(mv m)=vals.map(mv fun i=>m(s i)):=by
  rw[List.map_map]
  exact List.map_congr_left fun y _=>Zdx m s y
 rw[ev]
 refine calls_of_wp hF hc ?_
 have R:Rel(fun i=>m(s i)) w.heap.size(vals++List.replicate(F.ntmps-vals.length) undef,h0,[]){tmps:=(vals.map(mv fun i=>m(s i))).toArray++Array.replicate(F.ntmps-(vals.map(mv fun i=>m(s i))).toArray.size) undef,defers:=[]} w:=by
  refine⟨?_,rfl,E0,?_⟩
  ·simp [zo]
  ·intro y hy
   rcases List.mem_append.1 hy with hy | hy
   ·exact hvals y hy
   ·rw[List.eq_of_mem_replicate hy];simp [undef,lt]
 refine hrun _ _ _ w R _ fun e y he m1 a' w' k2 k3=> ?_
 obtain⟨hex,k,j,hkj,hres,⟨r,hblk⟩,r',hblj⟩:=he
 obtain⟨r1,r2⟩:=Zae k2.emb k2.wf hres
 rw[← k2.tmps] at r1
 have td:Zad w w':=⟨k3,fun k h1 h2=>k2.emb.ice k h1 h2⟩
 obtain⟨E',hb⟩:=zf E td
 have low:∀ {k:Nat}{x:List Value×TypeId},y.2.1.blk? k=some x→ro x.2=false→w.heap.size≤(m1 k).1:=fun h1 h2=>k2.emb.low _ _ h1 h2
 have hlie:∀ {k:Nat}{cs r:List Value},(∀ u∈cs,lt1 0 u=true)→y.2.1.blk? k=some(cs++r,ty)→∀ m':Mp,lie w'(m1 k)(cs.map(mv1 m')) ty:=fun{k cs r} hcs hblk m'=>by
  obtain⟨r',z,l0,l1,l2⟩:=k2.emb.lies k _ hblk(Zao hty)
  have e:cs.map(mv1 m1)=cs.map(mv1 m'):=ZbB hcs
  simp only[List.map_append] at l0 l1
  refine⟨r.map(mv1 m1)++r',z,?_,?_,l2⟩
  ·simp at l0 ⊢;omega
  ·rw[← e,l1,List.append_assoc]
 have lk:=low hblk hty
 have lj:=low hblj hty
 have Ea:=E'.adopt cs ty hty(fun u hu=>zn(Nat.zero_le _)(hcs u hu))(hlie hcs hblk m)(Nat.le_trans E.base lk)(fun b x hbx hx heq=>by
  have:=E.here hbx(Zao hx)
  omega)
 have Eb:=Ea.adopt ds ty hty(fun u hu=>zn(Nat.zero_le _)(hds u hu))(hlie hds hblj(upd m h.n(m1 k)))(Nat.le_trans E.base lj)(fun b x hbx hx heq=>by
  rw[Hp.blk_push E.len] at hbx
  by_cases h1:b=h.n
  ·subst h1
   simp only[upd,if_pos] at heq
   exact hkj(k2.emb.inj k j _ _ hblk hblj hty hty heq)
  ·rw[if_neg h1] at hbx
   simp only[upd,if_neg h1] at heq
   have:=E.here hbx(Zao hx)
   omega)
 have hn:(h.push cs ty).n=h.n+1:=rfl
 rw[hn] at Eb
 have e1:mv m1(v k j)=mv(upd(upd m h.n(m1 k))(h.n+1)(m1 j))(v h.n(h.n+1)):=by
  have e2:=hv1 k j(fun b=>if b=k then h.n else h.n+1)
  simp only[if_pos,if_neg(Ne.symm hkj)] at e2
  rw[← e2,Zdx]
  refine Zpe(fun b hb=> ?_)(hv0 k j)
  simp only[List.mem_cons,List.not_mem_nil,or_false] at hb
  rcases hb with rfl | rfl
  ·simp [upd]
  ·simp [upd,Ne.symm hkj]
 rw[e1] at r1
 have hlt:lt(h.n+2)(v h.n(h.n+1))=true:=by
  have e2:=hv1 k j(fun b=>if b=k then h.n else h.n+1)
  simp only[if_pos,if_neg(Ne.symm hkj)] at e2
  rw[← e2]
  exact Zif(bs:=[k,j])(fun b hb=>by split<;>omega)(hv0 k j)
 have post:a'.defers=[]∧∃ v',(results F a'.tmps).run T.P w'= .ok v' w'∧∃ m',Ending.returned v'= .returned(mv m'(v h.n(h.n+1)))∧Came m B h w(v h.n(h.n+1))((h.push cs ty).push ds ty) m' w':=
  ⟨k2.dfr,_,r1,_,rfl,⟨(ZR m h.n(m1 k)).trans(ZR _ _ _)(by omega),Eb,hb,by show h.n≤h.n+1+1;omega,hlt⟩⟩
 rcases hex with rfl | rfl<;>exact post
end Go.KRun
namespace Go.Proofs.YtjlponbdflkbjaaGreatDoor.Na
open Go.KRun Go.Nt
set_option maxRecDepth 100000
set_option linter.unusedVariables false
def Zaa(h:Hp)(p:Option Addr)(n c:Nat):Bool:=
 match p with
 | none=>Nat.beq n 0 && Nat.beq c 0
 | some a=>
  match a.spot,h.blk? a.block with
  | none,some x=>Z8 x.2 x.1 a.off n c
  | _,_=>false
theorem ZO{h:Hp}{p:Option Addr}{n c:Nat}(hr:Zaa h p n c=true):(p=none∧n=0∧c=0∧Zr h p n=[])∨∃ b o x,p=some⟨b,o,none⟩∧h.blk? b=some x∧Z8 x.2 x.1 o n c=true∧Zr h p n=Zy x.1 o n:=by
 unfold Zaa at hr
 split at hr
 ·simp only[Bool.and_eq_true] at hr
  exact .inl⟨rfl,Nat.eq_of_beq_eq_true hr.1,Nat.eq_of_beq_eq_true hr.2,rfl⟩
 ·rename_i a
  split at hr
  ·rename_i x hs hx
   obtain⟨b,o,sp⟩:=a
   simp only at hs hx
   subst hs
   exact .inr⟨b,o,x,rfl,hx,hr,by simp [Zr,hx]⟩
  ·cases hr
theorem ZcA:ZX []=false:=rfl
def Z9u:Zaf:=fun vals h s=>
 match vals,s with
 | [.slice p n c],.inr(.inr(.inr(.inl d)))::s'=>some(Zdb d,h,s',[(Zaa h p n c,true),(ZX(Zr h p n),d)])
 | _,_=>none
def ZiB:Zaf:=fun vals h s=>
 match vals,s with
 | [.slice p n c,.slice q n' c'],.inr(.inr(.inr(.inl d)))::s'=>some(Zdb d,h,s',[(Zaa h p n c,true),(Zaa h q n' c',true),(ZX(Zr h p n) || ZX(Zr h q n'),d)])
 | _,_=>none
theorem Z4B{a b c:Bool×Bool}(h:Z4 [a,b,c]):a.1=a.2∧b.1=b.2∧c.1=c.2:=⟨h _(by simp),h _(by simp),h _(by simp)⟩
theorem ZgB:Z9 116 ZiB:=by
 intro vals h s v h' s' lg hg hl m B w E hv
 unfold ZiB at hg
 split at hg
 ·rename_i p n c q n' c' d s2
  cases hg
  obtain⟨l1,l2,l3⟩:=Z4B hl
  simp only at l1 l2 l3
  rcases ZO l1 with⟨rfl,rfl,rfl,e0⟩ | ⟨b,o,x,rfl,hx,r1,e0⟩<;>rcases ZO l2 with⟨rfl,rfl,rfl,f0⟩ | ⟨b',o',y,rfl,hy,t1,f0⟩<;>simp only[e0,f0] at l3
  ·rw[ZcA,Bool.or_self] at l3
   subst l3
   exact Zc7 _ h [] _ _ _ _ rfl(fun x hx=>by cases hx) m B w E hv
  ·rw[ZcA,Bool.false_or] at l3
   exact Zc7 _ h [cmp d](Zdb d) h [] [(Z8 y.2 y.1 o' n' c',true),(ZX(Zy y.1 o' n'),d)](by simp only[Zj9,hy])(Za t1(Z3 l3)) m B w E hv
  ·rw[ZcA,Bool.or_false] at l3
   exact Zc7 _ h [cmp d](Zdb d) h [] [(Z8 x.2 x.1 o n c,true),(ZX(Zy x.1 o n),d)](by simp only[Zj9,hx])(Za r1(Z3 l3)) m B w E hv
  ·exact Zc7 _ h [cmp d](Zdb d) h [] [(Z8 x.2 x.1 o n c,true),(Z8 y.2 y.1 o' n' c',true),(ZX(Zy x.1 o n) || ZX(Zy y.1 o' n'),d)](by simp only[Zj9,hx,hy])(Za r1(Za t1(Z3 l3))) m B w E hv
 ·cases hg
def Zvl:Zaf:=fun vals h s=>
 match vals with
 | [.slice p n c,.slice q n' c']=>some(i6'(Zci(Zr h p n)(Zr h q n')),h,s,[(Zaa h p n c,true),(Zaa h q n' c',true)])
 | _=>none
theorem Ztf{L:List Int}{n:Nat}(h:L.length=n):Zci [] L=ZpW 0 n:=by
 unfold Zci ZpW
 rw[h,List.length_nil]
 split
 ·rfl
 ·rfl
theorem Z07{L:List Int}{n:Nat}(h:L.length=n):Zci L []=ZpW n 0:=by
 unfold Zci ZpW
 rw[h,List.length_nil]
 split
 ·rename_i h0;rw[h0];rfl
 ·rfl
theorem Zqm:Z9 120 Zvl:=by
 intro vals h s v h' s' lg hg hl m B w E hv
 unfold Zvl at hg
 split at hg
 ·rename_i p n c q n' c'
  cases hg
  have l1:=hl _(List.mem_cons_self)
  have l2:=hl _(List.mem_cons_of_mem _(List.mem_singleton.2 rfl))
  simp only at l1 l2
  rcases ZO l1 with⟨rfl,rfl,rfl,e0⟩ | ⟨b,o,x,rfl,hx,r1,e0⟩<;>rcases ZO l2 with⟨rfl,rfl,rfl,f0⟩ | ⟨b',o',y,rfl,hy,t1,f0⟩<;>simp only[e0,f0]
  ·exact Zeb _ h s _ _ _ _ rfl(fun x hx=>by cases hx) m B w E hv
  ·rw[Ztf(ZK t1).2.1]
   exact Zeb _ h s _ _ _ _ rfl(fun x hx=>by cases hx) m B w E hv
  ·rw[Z07(ZK r1).2.1]
   exact Zeb _ h s _ _ _ _ rfl(fun x hx=>by cases hx) m B w E hv
  ·exact Zeb _ h s _ h s [(Z8 x.2 x.1 o n c,true),(Z8 y.2 y.1 o' n' c',true)](by simp only[Z47,hx,hy])(Za r1(Z3 t1)) m B w E hv
 ·cases hg
theorem Z08{L:List Int}{n:Nat}(h:L.length=n):Zci [] L<0↔0<n:=by
 rw[Ztf h]
 unfold ZpW
 split
 ·omega
 ·split<;>omega
end Go.Proofs.YtjlponbdflkbjaaGreatDoor.Na
