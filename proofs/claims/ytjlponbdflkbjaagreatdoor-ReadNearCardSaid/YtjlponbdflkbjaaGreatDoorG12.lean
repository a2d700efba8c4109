/-
  RpE, RunI, TxH, UuZ, TxT, UuX, NumQ, ConNC
-/
import Derived.Test.YtjlponbdflkbjaaGreatDoorG09
import Derived.Test.YtjlponbdflkbjaaGreatDoorG10
import Derived.Test.YtjlponbdflkbjaaGreatDoorG11
import Derived.Test.YtjlponbdflkbjaaGreatDoorG07
import Derived.Laws.RangeString
import Derived.Test.YtjlponbdflkbjaaGreatDoorG08
import Derived.Laws.RangeAny
import Derived.Test.YtjlponbdflkbjaaGreatDoorG05
namespace Go.Proofs.YtjlponbdflkbjaaGreatDoor
open Go.KRun Go.Nt Go.Rd Go.Wd
set_option maxRecDepth 100000
def uN(x:Int):Value:= .int .u32 x
def nB9(n:Bool)(e:Int)(x:W4)(b:Bool):List Value×TypeId:=([.bool n,.int .i64 e,.int .u64 x.a,.int .u64 x.b,.int .u64 x.c,.int .u64 x.d,.bool b],53)
def hgM(l:List Value)(e:Int)(x:W4)(b:Bool):Hp:=⟨3,[nB9 false e x b,nB9 false 0⟨0,0,0,0⟩ false,(l,tR)]⟩
def ZyY(F:Func):Code:=cIn(cIn(Z0(sP F 3)))
def Zk1(F:Func):Code:=cIn(cIn(Z0(sP F 4)))
theorem Zv6:Tryz.f78.body=some(za [sP Tryz.f78 0,sP Tryz.f78 1,sP Tryz.f78 2](.seq(.seq(Z5(sP Tryz.f78 3))(.block 0(.loop(ZyY Tryz.f78))))(.seq(.seq(Z5(sP Tryz.f78 4))(.block 2(.loop(Zk1 Tryz.f78))))(sK Tryz.f78 5)))):=by kernel_rfl
def q10(q:Nat→Value):List Value:=[q 0,q 1,q 2,q 3,q 4,q 5,q 6,q 7,q 8,q 9]
def q11(q:Nat→Value):List Value:=[q 0,q 1,q 2,q 3,q 4,q 5,q 6,q 7,q 8,q 9,q 10]
def hgA(a:Value)(e:Int)(m:Bool)(k:Int)(v10 v11 v12:Value)(q:Nat→Value):List Value:=[a,.int .i64 e,.bool m,undef,undef,undef,pO 1,.int .i64 k,pO 2,undef,v10,v11,v12]++q10 q
def hgB(a:Value)(e:Int)(m:Bool)(v10 v11 v12:Value)(q:Nat→Value)(o c k:Nat)(i:Int):List Value:=hgA a e m(k:Nat) v10 v11 v12 q++[a,.int .i64(k:Nat),sl 0 o k c,.int .i64(k:Nat),.int .i64 i]
def hgC(a:Value)(e:Int)(m:Bool)(v10 v11 v12:Value)(q q':Nat→Value)(o n c k:Nat)(j i:Int):List Value:=hgB a e m v10 v11 v12 q o c k j++q11 q'++[a,.int .i64(k:Nat),sl 0(o+k*1)(n-k)(c-k),.int .i64((n-k:Nat):Int),.int .i64 i]
def Zti(n:Nat):Int:=if 0>IntKind.i64.wrap((n:Int)-8) then 0 else IntKind.i64.wrap((n:Int)-8)
def hgE(n:Nat)(e:Int):Int:=IntKind.i64.wrap(e+IntKind.i64.wrap(32*Zti n))
def hgQ(o n c:Nat)(e:Int)(m:Bool):Nat→Value:=fun i=>[sl 0 o n c,.int .i64(n:Nat),.int .i64(IntKind.i64.wrap((n:Int)-8)),.int .i64(Zti n),.int .i64 e,.int .i64(Zti n),.int .i64(IntKind.i64.wrap(32*Zti n)),.int .i64(hgE n e),.bool m,.agg #[.bool false,.int .i64(hgE n e),.int .u64 0,.int .u64 0,.int .u64 0,.int .u64 0,.bool m]].getD i undef
theorem Z0G(l:List Value)(o n c:Nat)(e:Int)(m:Bool):Zg(evL(Zs Tryz.prog Zf Zo hcN) 100 [sP Tryz.f78 0,sP Tryz.f78 1,sP Tryz.f78 2]([sl 0 o n c,.int .i64 e,.bool m]++List.replicate 62 undef,⟨1,[(l,tR)]⟩,[])⟨[],[],[]⟩) 23 42 none(hgA(sl 0 o n c) e m(Zti n) undef undef undef(hgQ o n c e m))(hgM l(hgE n e)⟨0,0,0,0⟩ m) []:=⟨by kernel_rfl,by kernel_rfl,by kernel_rfl⟩
theorem Z6e(l:List Value)(o n c k:Nat)(e E:Int)(m:Bool)(x:W4)(q g:Nat→Value):Zg(evC(Zs Tryz.prog Zf Zo hcN) 100 false(Z5(sP Tryz.f78 3))(hgA(sl 0 o n c) e m(k:Nat) undef undef undef q++tl 42 g,hgM l E x m,[num 0])⟨[],[],[]⟩) 28 37 none(hgB(sl 0 o n c) e m undef undef undef q o c k 0)(hgM l E x m) [(ZB c,true),(ZS 0(k:Nat)(c:Nat)(c:Nat),true),(decide((c:Int)=0∧(0:Int)≠0),false)]:=⟨by kernel_rfl,by kernel_rfl,by kernel_rfl⟩
theorem Z6f(l:List Value)(a:Value)(o c k:Nat)(e E i:Int)(m mo:Bool)(x:W4)(v10:Value)(q g:Nat→Value):Zg(evC(Zs Tryz.prog Zf Zo hcN) 100 false(ZyY Tryz.f78)(hgB a e m v10 undef undef q o c k i++tl 37 g,hgM l E x mo,[cmp false])⟨[],[],[]⟩) 28 37(some(some 0))(hgB a e m v10 undef undef q o c k i)(hgM l E x mo) [(decide(i<(k:Nat)),false)]:=⟨by kernel_rfl,by kernel_rfl,by kernel_rfl⟩
theorem Z6g(l:List Value)(a:Value)(o c k:Nat)(e E i w:Int)(m d:Bool)(x:W4)(v10:Value)(q g:Nat→Value):Zg(evC(Zs Tryz.prog Zf Zo hcN) 100 false(ZyY Tryz.f78)(hgB a e m v10 undef undef q o c k i++tl 37 g,hgM l E x false,[cmp true,at_,val(uN w),cmp d])⟨[],[],[]⟩) 28 37 none(hgB a e m(uN w) undef undef q o c k(IntKind.i64.wrap(i+1)))(hgM l E x d) [(w !=0,d),(Z6(l[o+i.toNat*1]?)(uN w),true),(decide(0≤i∧i<(k:Nat)),true),(decide(i<(k:Nat)),true)]:=⟨by kernel_rfl,by kernel_rfl,by kernel_rfl⟩
theorem Z6h(l:List Value)(a:Value)(o c k:Nat)(e E i w:Int)(m:Bool)(x:W4)(v10:Value)(q g:Nat→Value):Zg(evC(Zs Tryz.prog Zf Zo hcN) 100 false(ZyY Tryz.f78)(hgB a e m v10 undef undef q o c k i++tl 37 g,hgM l E x true,[cmp true,at_,val(uN w)])⟨[],[],[]⟩) 28 37 none(hgB a e m(uN w) undef undef q o c k(IntKind.i64.wrap(i+1)))(hgM l E x true) [(Z6(l[o+i.toNat*1]?)(uN w),true),(decide(0≤i∧i<(k:Nat)),true),(decide(i<(k:Nat)),true)]:=⟨by kernel_rfl,by kernel_rfl,by kernel_rfl⟩
theorem Z6i(l:List Value)(o n c k:Nat)(e E j:Int)(m mo:Bool)(x:W4)(v10:Value)(q g:Nat→Value):Zg(evC(Zs Tryz.prog Zf Zo hcN) 100 false(Z5(sP Tryz.f78 4))(hgB(sl 0 o n c) e m v10 undef undef q o c k j++tl 37 g,hgM l E x mo,[num 0])⟨[],[],[]⟩) 44 21 none(hgC(sl 0 o n c) e m v10 undef undef q g o n c k j 0)(hgM l E x mo) [(ZB c,true),(ZS(k:Nat)(n:Nat)(c:Nat)(c:Nat),true),(decide((c:Int)=(k:Nat)∧((k:Nat):Int)≠0),false)]:=⟨by kernel_rfl,by kernel_rfl,by kernel_rfl⟩
theorem Z6j(l:List Value)(a:Value)(o n c k:Nat)(e E j i:Int)(m mo:Bool)(x:W4)(v10 v11 v12:Value)(q q' g:Nat→Value):Zg(evC(Zs Tryz.prog Zf Zo hcN) 100 false(Zk1 Tryz.f78)(hgC a e m v10 v11 v12 q q' o n c k j i++tl 21 g,hgM l E x mo,[cmp false])⟨[],[],[]⟩) 44 21(some(some 2))(hgC a e m v10 v11 v12 q q' o n c k j i)(hgM l E x mo) [(decide(i<((n-k:Nat):Int)),false)]:=⟨by kernel_rfl,by kernel_rfl,by kernel_rfl⟩
theorem Z6k(l:List Value)(a:Value)(o n c k:Nat)(e E j w:Int)(m mo:Bool)(x:W4)(v10 v11 v12:Value)(q q' g:Nat→Value):Zg(evC(Zs Tryz.prog Zf Zo hcN) 100 false(Zk1 Tryz.f78)(hgC a e m v10 v11 v12 q q' o n c k j 0++tl 21 g,hgM l E x mo,[cmp true,at_,val(uN w)])⟨[],[],[]⟩) 44 21 none(hgC a e m v10(.int .i64 0)(uN w) q q' o n c k j 1)(hgM l E(Z5W x w) mo) [(false,false),(Z6(l[o+k*1+0]?)(uN w),true),(decide((0:Int)≤0∧(0:Int)<((n-k:Nat):Int)),true),(decide((0:Int)<((n-k:Nat):Int)),true)]:=⟨by kernel_rfl,by kernel_rfl,by kernel_rfl⟩
theorem Z6l(l:List Value)(a:Value)(o n c k:Nat)(e E j w:Int)(m mo:Bool)(x:W4)(v10 v11 v12:Value)(q q' g:Nat→Value):Zg(evC(Zs Tryz.prog Zf Zo hcN) 100 false(Zk1 Tryz.f78)(hgC a e m v10 v11 v12 q q' o n c k j 1++tl 21 g,hgM l E x mo,[cmp true,at_,val(uN w)])⟨[],[],[]⟩) 44 21 none(hgC a e m v10(.int .i64 1)(uN w) q q' o n c k j 2)(hgM l E(Z5X x w) mo) [(false,false),(Z6(l[o+k*1+1]?)(uN w),true),(decide((0:Int)≤1∧(1:Int)<((n-k:Nat):Int)),true),(decide((1:Int)<((n-k:Nat):Int)),true)]:=⟨by kernel_rfl,by kernel_rfl,by kernel_rfl⟩
theorem Z6m(l:List Value)(a:Value)(o n c k:Nat)(e E j w:Int)(m mo:Bool)(x:W4)(v10 v11 v12:Value)(q q' g:Nat→Value):Zg(evC(Zs Tryz.prog Zf Zo hcN) 100 false(Zk1 Tryz.f78)(hgC a e m v10 v11 v12 q q' o n c k j 2++tl 21 g,hgM l E x mo,[cmp true,at_,val(uN w)])⟨[],[],[]⟩) 44 21 none(hgC a e m v10(.int .i64 2)(uN w) q q' o n c k j 3)(hgM l E(Z5Y x w) mo) [(false,false),(Z6(l[o+k*1+2]?)(uN w),true),(decide((0:Int)≤2∧(2:Int)<((n-k:Nat):Int)),true),(decide((2:Int)<((n-k:Nat):Int)),true)]:=⟨by kernel_rfl,by kernel_rfl,by kernel_rfl⟩
theorem Z6n(l:List Value)(a:Value)(o n c k:Nat)(e E j w:Int)(m mo:Bool)(x:W4)(v10 v11 v12:Value)(q q' g:Nat→Value):Zg(evC(Zs Tryz.prog Zf Zo hcN) 100 false(Zk1 Tryz.f78)(hgC a e m v10 v11 v12 q q' o n c k j 3++tl 21 g,hgM l E x mo,[cmp true,at_,val(uN w)])⟨[],[],[]⟩) 44 21 none(hgC a e m v10(.int .i64 3)(uN w) q q' o n c k j 4)(hgM l E(Z5Z x w) mo) [(false,false),(Z6(l[o+k*1+3]?)(uN w),true),(decide((0:Int)≤3∧(3:Int)<((n-k:Nat):Int)),true),(decide((3:Int)<((n-k:Nat):Int)),true)]:=⟨by kernel_rfl,by kernel_rfl,by kernel_rfl⟩
theorem Z6o(l:List Value)(a:Value)(o n c k:Nat)(e E j w:Int)(m mo:Bool)(x:W4)(v10 v11 v12:Value)(q q' g:Nat→Value):Zg(evC(Zs Tryz.prog Zf Zo hcN) 100 false(Zk1 Tryz.f78)(hgC a e m v10 v11 v12 q q' o n c k j 4++tl 21 g,hgM l E x mo,[cmp true,at_,val(uN w)])⟨[],[],[]⟩) 44 21 none(hgC a e m v10(.int .i64 4)(uN w) q q' o n c k j 5)(hgM l E(Z6a x w) mo) [(false,false),(Z6(l[o+k*1+4]?)(uN w),true),(decide((0:Int)≤4∧(4:Int)<((n-k:Nat):Int)),true),(decide((4:Int)<((n-k:Nat):Int)),true)]:=⟨by kernel_rfl,by kernel_rfl,by kernel_rfl⟩
theorem Z6p(l:List Value)(a:Value)(o n c k:Nat)(e E j w:Int)(m mo:Bool)(x:W4)(v10 v11 v12:Value)(q q' g:Nat→Value):Zg(evC(Zs Tryz.prog Zf Zo hcN) 100 false(Zk1 Tryz.f78)(hgC a e m v10 v11 v12 q q' o n c k j 5++tl 21 g,hgM l E x mo,[cmp true,at_,val(uN w)])⟨[],[],[]⟩) 44 21 none(hgC a e m v10(.int .i64 5)(uN w) q q' o n c k j 6)(hgM l E(Z6b x w) mo) [(false,false),(Z6(l[o+k*1+5]?)(uN w),true),(decide((0:Int)≤5∧(5:Int)<((n-k:Nat):Int)),true),(decide((5:Int)<((n-k:Nat):Int)),true)]:=⟨by kernel_rfl,by kernel_rfl,by kernel_rfl⟩
theorem Z6q(l:List Value)(a:Value)(o n c k:Nat)(e E j w:Int)(m mo:Bool)(x:W4)(v10 v11 v12:Value)(q q' g:Nat→Value):Zg(evC(Zs Tryz.prog Zf Zo hcN) 100 false(Zk1 Tryz.f78)(hgC a e m v10 v11 v12 q q' o n c k j 6++tl 21 g,hgM l E x mo,[cmp true,at_,val(uN w)])⟨[],[],[]⟩) 44 21 none(hgC a e m v10(.int .i64 6)(uN w) q q' o n c k j 7)(hgM l E(Z6c x w) mo) [(false,false),(Z6(l[o+k*1+6]?)(uN w),true),(decide((0:Int)≤6∧(6:Int)<((n-k:Nat):Int)),true),(decide((6:Int)<((n-k:Nat):Int)),true)]:=⟨by kernel_rfl,by kernel_rfl,by kernel_rfl⟩
theorem Z6r(l:List Value)(a:Value)(o n c k:Nat)(e E j w:Int)(m mo:Bool)(x:W4)(v10 v11 v12:Value)(q q' g:Nat→Value):Zg(evC(Zs Tryz.prog Zf Zo hcN) 100 false(Zk1 Tryz.f78)(hgC a e m v10 v11 v12 q q' o n c k j 7++tl 21 g,hgM l E x mo,[cmp true,at_,val(uN w)])⟨[],[],[]⟩) 44 21 none(hgC a e m v10(.int .i64 7)(uN w) q q' o n c k j 8)(hgM l E(Z6d x w) mo) [(false,false),(Z6(l[o+k*1+7]?)(uN w),true),(decide((0:Int)≤7∧(7:Int)<((n-k:Nat):Int)),true),(decide((7:Int)<((n-k:Nat):Int)),true)]:=⟨by kernel_rfl,by kernel_rfl,by kernel_rfl⟩
theorem Z9w(l:List Value)(a:Value)(o n c k:Nat)(e E j i:Int)(m mo:Bool)(x:W4)(v10 v11 v12:Value)(q q' g:Nat→Value):Zg(evC(Zs Tryz.prog Zf Zo hcN) 100 false(sK Tryz.f78 5)(hgC a e m v10 v11 v12 q q' o n c k j i++tl 21 g,hgM l E x mo,[])⟨[],[],[]⟩) 7 58(some none)([a,.int .i64 e,.bool m,undef,undef,undef,pO 1])(⟨3,[nB9 false E x mo,nB9 false E x mo,(l,tR)]⟩) []:=⟨by kernel_rfl,by kernel_rfl,by kernel_rfl⟩
theorem vbz{L:List Int}(h:∀ x∈L,Dg 4294967296 x)(k:Nat):vb 4294967296(L.take k)<4294967296^k:=by
 have h1:=Zbm(b:=4294967296)(by omega)(L.take k)(fun x hx=>h x(List.mem_of_mem_take hx))
 have h2:(L.take k).length≤k:=by rw[List.length_take];omega
 exact Nat.lt_of_lt_of_le h1(Nat.pow_le_pow_right(by omega) h2)
def Zqu(L:List Int)(m:Bool):Bool:=m || decide(vb 4294967296 L≠0)
theorem Zmx{L:List Int}{m:Bool}{i:Nat}(hL:∀ x∈L,Dg 4294967296 x)(hi:i<L.length):Zqu(L.take(i+1)) m=(Zqu(L.take i) m || (L.getD i 0 !=0)):=by
 have hd:0≤L.getD i 0:=by
  have:L.getD i 0∈L:=by
   rw[List.getD_eq_getElem?_getD,List.getElem?_eq_getElem hi,Option.getD_some]
   exact List.getElem_mem hi
  exact(hL _ this).1
 have e:=Zag 4294967296 L i
 have hp:0<4294967296^i:=Nat.pow_pos(by omega)
 unfold Zqu
 rw[Bool.or_assoc]
 congr 1
 by_cases h0:L.getD i 0=0
 ·rw[h0] at e
  rw[e,h0]
  simp
 ·have h1:vb 4294967296(L.take(i+1))≠0:=by
   rw[e]
   have h2:0<4294967296^i*(L.getD i 0).toNat:=Nat.mul_pos hp(by omega)
   omega
  rw[decide_eq_true h1,show(L.getD i 0 !=0)=true by simpa using h0,Bool.or_true]
def ZyZ(l:List Value)(a:Value)(o c k:Nat)(e E:Int)(m:Bool)(q:Nat→Value)(L:List Int)(i:Nat)(y:Lf):Prop:=∃ (v10:Value)(g:Nat→Value),i≤k∧y.1=hgB a e m v10 undef undef q o c k i++tl 37 g∧y.2.1=hgM l E⟨0,0,0,0⟩(Zqu(L.take i) m)
theorem Zmy{l:List Value}{a:Value}{o c k:Nat}{e E:Int}{m:Bool}{q:Nat→Value}{L:List Int}(hR:Row l o L)(hk:k≤L.length)(hk2:k≤100000)(r:Nat)(y:Lf)(h:∃ i,r=k-i∧ZyZ l a o c k e E m q L i y):
  Runs(Zs Tryz.prog Zf Zo hcN)(ZyY Tryz.f78) y fun e' z=>match e' with | none=>∃ r',r'<r∧∃ i,r'=k-i∧ZyZ l a o c k e E m q L i z | some none=>False | some(some id')=>id'=0∧ZyZ l a o c k e E m q L k z:=by
 have hT:=Zh Zd Zam
 obtain⟨i,hr,v10,g,hi,ht,hh⟩:=h
 obtain⟨t,h',sc⟩:=y
 simp only at ht hh
 subst ht hh
 by_cases hc:i<k
 ·have lA:decide(((i:Nat):Int)<(k:Nat))=true:=decide_eq_true(by omega)
  have lI:decide((0:Int)≤(i:Nat)∧((i:Nat):Int)<(k:Nat))=true:=decide_eq_true⟨by omega,by omega⟩
  have ew:IntKind.i64.wrap(((i:Nat):Int)+1)=((i+1:Nat):Int):=by rw[Zw(by omega)(by omega)];omega
  have lC:Z6(l[o+((i:Nat):Int).toNat*1]?)(uN(L.getD i 0))=true:=by
   rw[Int.toNat_natCast,Nat.mul_one,hR.cell(by omega)]
   simp [Z6,uN]
  have hn:=Zmx(m:=m) hR.rng(show i<L.length by omega)
  cases hb:Zqu(L.take i) m with
  | true=>
   have hg:=Z6h l a o c k e E(i:Nat)(L.getD i 0) m⟨0,0,0,0⟩ v10 q g
   rw[ew] at hg
   rw[hb,Bool.true_or] at hn
   refine(Zb(s0:=sc) hT hg(Za lC(Za lI(Z3 lA)))).mono fun e' z he=> ?_
   obtain⟨rfl,⟨g',z1⟩,z2⟩:=he
   exact⟨k-(i+1),by omega,i+1,rfl,_,g',by omega,z1,by rw[z2,hn]⟩
  | false=>
   have hg:=Z6g l a o c k e E(i:Nat)(L.getD i 0) m(L.getD i 0 !=0)⟨0,0,0,0⟩ v10 q g
   rw[ew] at hg
   rw[hb,Bool.false_or] at hn
   refine(Zb(s0:=sc) hT hg(Za rfl(Za lC(Za lI(Z3 lA))))).mono fun e' z he=> ?_
   obtain⟨rfl,⟨g',z1⟩,z2⟩:=he
   exact⟨k-(i+1),by omega,i+1,rfl,_,g',by omega,z1,by rw[z2,hn]⟩
 ·have:i=k:=by omega
  subst this
  refine(Zb(s0:=sc) hT(Z6f l a o c i e E(i:Nat) m _ _ v10 q g)(Z3(decide_eq_false(by omega)))).mono fun e' z he=> ?_
  obtain⟨rfl,⟨g',z1⟩,z2⟩:=he
  exact⟨rfl,v10,g',hi,z1,z2⟩
def Zv7(l:List Value)(a:Value)(o n c k:Nat)(e E j:Int)(m mo:Bool)(q q':Nat→Value)(K:List Int)(i:Nat)(y:Lf):Prop:=∃ (v10 v11 v12:Value)(g:Nat→Value),i≤n-k∧y.1=hgC a e m v10 v11 v12 q q' o n c k j i++tl 21 g∧y.2.1=hgM l E(ofN(vb 4294967296(K.take i))) mo
theorem Zmz{l:List Value}{a:Value}{o n c k:Nat}{e E j:Int}{m mo:Bool}{q q':Nat→Value}{K:List Int}(hR:∀ i,i<n-k→l[o+k*1+i]? =some(uN(K.getD i 0)))(hK:∀ x∈K,Dg 4294967296 x)(hn:n-k≤8)(hl:K.length=n-k)(r:Nat)(y:Lf)(h:∃ i,r=n-k-i∧Zv7 l a o n c k e E j m mo q q' K i y):
  Runs(Zs Tryz.prog Zf Zo hcN)(Zk1 Tryz.f78) y fun e' z=>match e' with | none=>∃ r',r'<r∧∃ i,r'=n-k-i∧Zv7 l a o n c k e E j m mo q q' K i z | some none=>False | some(some id')=>id'=2∧Zv7 l a o n c k e E j m mo q q' K(n-k) z:=by
 have hT:=Zh Zd Zam
 obtain⟨i,hr,v10,v11,v12,g,hi,ht,hh⟩:=h
 obtain⟨t,h',sc⟩:=y
 simp only at ht hh
 subst ht hh
 by_cases hc:i<n-k
 ·have hw:Dg 4294967296(K.getD i 0):=by
   refine hK _ ?_
   rw[List.getD_eq_getElem?_getD,List.getElem?_eq_getElem(by omega),Option.getD_some]
   exact List.getElem_mem(by omega)
  obtain⟨w,ew⟩:∃ w:Nat,K.getD i 0=(w:Int):=⟨(K.getD i 0).toNat,by have:=hw.1;omega⟩
  have hw2:w<4294967296:=by have:=hw.2;rw[ew] at this;omega
  have lC:Z6(l[o+k*1+i]?)(uN(w:Int))=true:=by
   rw[hR i hc,ew]
   simp [Z6,uN]
  have hV:=vbz hK i
  have ev:=Zag 4294967296 K i
  rw[ew,Int.toNat_natCast] at ev
  obtain⟨V,hVe⟩:∃ V,V=vb 4294967296(K.take i):=⟨_,rfl⟩
  rw[← hVe] at hV ev
  rw[← hVe]
  have i8:i=0∨i=1∨i=2∨i=3∨i=4∨i=5∨i=6∨i=7:=by omega
  have fin:∀ (s':Lf)(X:W4),X=ofN(vb 4294967296(K.take(i+1)))→(∃ g',s'.1=hgC a e m v10(.int .i64(i:Nat))(uN(w:Int)) q q' o n c k j((i+1:Nat):Int)++tl 21 g')→s'.2.1=hgM l E X mo→∃ r',r'<r∧∃ i,r'=n-k-i∧Zv7 l a o n c k e E j m mo q q' K i s':=by
   rintro s' X hX⟨g',e1⟩ e2
   exact⟨n-k-(i+1),by omega,i+1,rfl,v10,_,_,g',by omega,e1,by rw[e2,hX]⟩
  rcases i8 with rfl | rfl | rfl | rfl | rfl | rfl | rfl | rfl
  ·have hg:=Z6k l a o n c k e E j(w:Int) m mo(ofN V) v10 v11 v12 q q' g
   have lT:decide((0:Int)<((n-k:Nat):Int))=true:=decide_eq_true(by omega)
   refine(Zb(s0:=sc) hT hg(Za rfl(Za lC(Za(decide_eq_true⟨by omega,by omega⟩)(Z3 lT))))).mono fun e' z he=> ?_
   obtain⟨rfl,⟨g',z1⟩,z2⟩:=he
   refine fin z _ ?_⟨g',z1⟩ z2
   rw[Zvy(show V<1 from hV) hw2,ev]
  ·have hg:=Z6l l a o n c k e E j(w:Int) m mo(ofN V) v10 v11 v12 q q' g
   have lT:decide((1:Int)<((n-k:Nat):Int))=true:=decide_eq_true(by omega)
   refine(Zb(s0:=sc) hT hg(Za rfl(Za lC(Za(decide_eq_true⟨by omega,by omega⟩)(Z3 lT))))).mono fun e' z he=> ?_
   obtain⟨rfl,⟨g',z1⟩,z2⟩:=he
   refine fin z _ ?_⟨g',z1⟩ z2
   rw[Zvz(show V<4294967296 from hV) hw2,ev]
  ·have hg:=Z6m l a o n c k e E j(w:Int) m mo(ofN V) v10 v11 v12 q q' g
   have lT:decide((2:Int)<((n-k:Nat):Int))=true:=decide_eq_true(by omega)
   refine(Zb(s0:=sc) hT hg(Za rfl(Za lC(Za(decide_eq_true⟨by omega,by omega⟩)(Z3 lT))))).mono fun e' z he=> ?_
   obtain⟨rfl,⟨g',z1⟩,z2⟩:=he
   refine fin z _ ?_⟨g',z1⟩ z2
   rw[Zv0(show V<18446744073709551616 from hV) hw2,ev]
  ·have hg:=Z6n l a o n c k e E j(w:Int) m mo(ofN V) v10 v11 v12 q q' g
   have lT:decide((3:Int)<((n-k:Nat):Int))=true:=decide_eq_true(by omega)
   refine(Zb(s0:=sc) hT hg(Za rfl(Za lC(Za(decide_eq_true⟨by omega,by omega⟩)(Z3 lT))))).mono fun e' z he=> ?_
   obtain⟨rfl,⟨g',z1⟩,z2⟩:=he
   refine fin z _ ?_⟨g',z1⟩ z2
   rw[Zv1(show V<79228162514264337593543950336 from hV) hw2,ev]
  ·have hg:=Z6o l a o n c k e E j(w:Int) m mo(ofN V) v10 v11 v12 q q' g
   have lT:decide((4:Int)<((n-k:Nat):Int))=true:=decide_eq_true(by omega)
   refine(Zb(s0:=sc) hT hg(Za rfl(Za lC(Za(decide_eq_true⟨by omega,by omega⟩)(Z3 lT))))).mono fun e' z he=> ?_
   obtain⟨rfl,⟨g',z1⟩,z2⟩:=he
   refine fin z _ ?_⟨g',z1⟩ z2
   rw[Zv2(show V<340282366920938463463374607431768211456 from hV) hw2,ev]
  ·have hg:=Z6p l a o n c k e E j(w:Int) m mo(ofN V) v10 v11 v12 q q' g
   have lT:decide((5:Int)<((n-k:Nat):Int))=true:=decide_eq_true(by omega)
   refine(Zb(s0:=sc) hT hg(Za rfl(Za lC(Za(decide_eq_true⟨by omega,by omega⟩)(Z3 lT))))).mono fun e' z he=> ?_
   obtain⟨rfl,⟨g',z1⟩,z2⟩:=he
   refine fin z _ ?_⟨g',z1⟩ z2
   rw[Zv3(show V<1461501637330902918203684832716283019655932542976 from hV) hw2,ev]
  ·have hg:=Z6q l a o n c k e E j(w:Int) m mo(ofN V) v10 v11 v12 q q' g
   have lT:decide((6:Int)<((n-k:Nat):Int))=true:=decide_eq_true(by omega)
   refine(Zb(s0:=sc) hT hg(Za rfl(Za lC(Za(decide_eq_true⟨by omega,by omega⟩)(Z3 lT))))).mono fun e' z he=> ?_
   obtain⟨rfl,⟨g',z1⟩,z2⟩:=he
   refine fin z _ ?_⟨g',z1⟩ z2
   rw[Zv4(show V<6277101735386680763835789423207666416102355444464034512896 from hV) hw2,ev]
  ·have hg:=Z6r l a o n c k e E j(w:Int) m mo(ofN V) v10 v11 v12 q q' g
   have lT:decide((7:Int)<((n-k:Nat):Int))=true:=decide_eq_true(by omega)
   refine(Zb(s0:=sc) hT hg(Za rfl(Za lC(Za(decide_eq_true⟨by omega,by omega⟩)(Z3 lT))))).mono fun e' z he=> ?_
   obtain⟨rfl,⟨g',z1⟩,z2⟩:=he
   refine fin z _ ?_⟨g',z1⟩ z2
   rw[Zv5(show V<26959946667150639794667015087019630673637144422540572481103610249216 from hV) hw2,ev]
 ·have:i=n-k:=by omega
  subst this
  refine(Zb(s0:=sc) hT(Z6j l a o n c k e E j((n-k:Nat):Int) m mo _ v10 v11 v12 q q' g)(Z3(decide_eq_false(by omega)))).mono fun e' z he=> ?_
  obtain⟨rfl,⟨g',z1⟩,z2⟩:=he
  exact⟨rfl,v10,v11,v12,g',hi,z1,z2⟩
theorem Z0H{n:Nat}(h:n≤100000):Zti n=((n-8:Nat):Int):=by
 unfold Zti
 rw[Zw(by omega)(by omega)]
 split<;>omega
theorem Zv8{l:List Value}{o c:Nat}{e:Int}{m:Bool}{V:Nat}(hR:Row l o(db 4294967296 V))(hn:(db 4294967296 V).length≤1000)(hc:(db 4294967296 V).length≤c)(hs:ZB c=true)(he: -1000000≤e∧e≤1000000):
  Runs(Zs Tryz.prog Zf Zo hcN)(za [sP Tryz.f78 0,sP Tryz.f78 1,sP Tryz.f78 2](.seq(.seq(Z5(sP Tryz.f78 3))(.block 0(.loop(ZyY Tryz.f78))))(.seq(.seq(Z5(sP Tryz.f78 4))(.block 2(.loop(Zk1 Tryz.f78))))(sK Tryz.f78 5))))([sl 0 o(db 4294967296 V).length c,.int .i64 e,.bool m]++List.replicate 62 undef,⟨1,[(l,tR)]⟩,[]) fun e' z=>(e'=none∨e'=some none)∧ZZ Tryz.prog Tryz.f78 z.1 z.2.1=some(vN false(hiE V e)(ofN(hiS V))(hiM V m)):=by
 have hT:=Zh Zd Zam
 obtain⟨L,hL⟩:∃ L,L=db 4294967296 V:=⟨_,rfl⟩
 have hdg:∀ x∈L,Dg 4294967296 x:=by rw[hL];exact Zfy(by omega) V
 have eV:vb 4294967296 L=V:=by rw[hL];exact Zb0(by omega) V
 rw[← hL] at hR hn hc ⊢
 obtain⟨n,hnl⟩:∃ n,n=L.length:=⟨_,rfl⟩
 rw[← hnl] at hn hc ⊢
 obtain⟨k,hk⟩:∃ k,k=n-8:=⟨_,rfl⟩
 have elow:Zti n=(k:Nat):=by rw[Z0H(by omega),hk]
 have eE:hgE n e=hiE V e:=by
  unfold hgE hiE loW
  rw[elow,Zw(n:=32*((k:Nat):Int))(by omega)(by omega),Zw(by omega)(by omega),← hL,← hnl,← hk]
 have dead_c:(c:Int)<4611686018427387904:=by
  have:=Zp.1 hs
  have e:ZW=4611686018427387904:=rfl
  omega
 have hp:=Z0G l o n c e m
 rw[elow,eE] at hp
 refine Zx hT hp ZaZ fun g=> ?_
 have okc:ZS 0(k:Nat)(c:Nat)(c:Nat)=true:=decide_eq_true⟨by omega,by omega,by omega,by omega,by omega⟩
 refine Runs.seq(P1:=fun e' y=>match e' with | none=>ZyZ l(sl 0 o n c) o c k e(hiE V e) m(hgQ o n c e m) L k y | some none=>False | some(some _)=>False) ?_ ?_ ?_
 ·refine Runs.seq(Zb hT(Z6e l o n c k e(hiE V e) m⟨0,0,0,0⟩(hgQ o n c e m) g)(Za hs(Za okc(Z3(decide_eq_false(fun h=>h.2 rfl)))))) ?_(fun e' y hy=>by cases hy.1)
  rintro⟨t,h',s⟩⟨_,⟨g',ht⟩,hh⟩
  simp only at ht hh
  subst ht hh
  exact Runs.forLoop(R:=fun _=>False)(P:=ZyZ l(sl 0 o n c) o c k e(hiE V e) m(hgQ o n c e m) L k)(fun r y=>∃ i,r=k-i∧ZyZ l(sl 0 o n c) o c k e(hiE V e) m(hgQ o n c e m) L i y)(Zmy hR(by omega)(by omega))(n:=k-0)⟨0,rfl,undef,g',Nat.zero_le _,rfl,by rw[show Zqu(L.take 0) m=m by unfold Zqu;cases m<;>rfl]⟩
 ·rintro⟨t,h',s⟩⟨v10,g1,_,ht,hh⟩
  simp only at ht hh
  subst ht hh
  obtain⟨mo,hmo⟩:∃ mo,mo=Zqu(L.take k) m:=⟨_,rfl⟩
  rw[← hmo]
  have okn:ZS(k:Nat)(n:Nat)(c:Nat)(c:Nat)=true:=decide_eq_true⟨by omega,by omega,by omega,by omega,by omega⟩
  have hKl:(L.drop k).length=n-k:=by rw[List.length_drop,← hnl]
  refine Runs.seq(P1:=fun e' y=>match e' with | none=>Zv7 l(sl 0 o n c) o n c k e(hiE V e)(k:Nat) m mo(hgQ o n c e m) g1(L.drop k)(n-k) y | some none=>False | some(some _)=>False) ?_ ?_ ?_
  ·refine Runs.seq(Zb(s0:=s) hT(Z6i l o n c k e(hiE V e)(k:Nat) m mo⟨0,0,0,0⟩ v10(hgQ o n c e m) g1)(Za hs(Za okn(Z3(decide_eq_false(fun h=>by omega)))))) ?_(fun e' y hy=>by cases hy.1)
   rintro⟨t,h',s⟩⟨_,⟨g',ht⟩,hh⟩
   simp only at ht hh
   subst ht hh
   refine Runs.forLoop(R:=fun _=>False)(P:=Zv7 l(sl 0 o n c) o n c k e(hiE V e)(k:Nat) m mo(hgQ o n c e m) g1(L.drop k)(n-k))(fun r y=>∃ i,r=n-k-i∧Zv7 l(sl 0 o n c) o n c k e(hiE V e)(k:Nat) m mo(hgQ o n c e m) g1(L.drop k) i y)(Zmz(fun i hi=> ?_)(fun x hx=>hdg x(List.mem_of_mem_drop hx))(by omega) hKl)(n:=n-k-0)⟨0,rfl,v10,undef,undef,g',Nat.zero_le _,rfl,by rw[show ofN(vb 4294967296((L.drop k).take 0))=⟨0,0,0,0⟩ from Zcy]⟩
   rw[Nat.mul_one,Nat.add_assoc,hR.cell(by omega)]
   simp [uN,List.getD,List.getElem?_drop]
  ·rintro⟨t,h',s⟩⟨v10,v11,v12,g',_,ht,hh⟩
   simp only at ht hh
   subst ht hh
   rw[show(L.drop k).take(n-k)=L.drop k by rw[← hKl,List.take_length]]
   refine(Zb(s0:=s) hT(Z9w l(sl 0 o n c) o n c k e(hiE V e)(k:Nat) _ m mo _ v10 v11 v12(hgQ o n c e m) g1 g') ZaZ).mono fun e' z he=> ?_
   obtain⟨rfl,⟨g2,z1⟩,z2⟩:=he
   refine⟨.inr rfl,?_⟩
   have hsp:vb 4294967296(L.take k)+4294967296^k*vb 4294967296(L.drop k)=V:=by
    have:=Zav 4294967296(L.take k)(L.drop k)
    rw[List.take_append_drop,eV,List.length_take,Nat.min_eq_left(by omega)] at this
    exact this.symm
   have hlt:=vbz hdg k
   have hp:0<4294967296^k:=Nat.pow_pos(by omega)
   have elo:loW V=k:=by unfold loW;rw[← hL,← hnl,hk]
   have e1:vb 4294967296(L.drop k)=hiS V:=by
    unfold hiS
    rw[elo,← zK,← hsp,Nat.add_comm,Nat.mul_add_div hp,Nat.div_eq_of_lt hlt,Nat.add_zero]
   have e2:mo=hiM V m:=by
    rw[hmo]
    unfold Zqu hiM
    rw[elo,← zK,← hsp,Nat.add_comm,Nat.mul_add_mod,Nat.mod_eq_of_lt hlt]
   rw[z1,z2,e1,e2]
   rfl
  ·rintro e' y he
   match e',he with
   | none,he=>exact he.elim
 ·rintro e' y he
  match e',he with
  | none,he=>exact he.elim
def Z6s:Zaf:=fun vals h s=>
 match vals,s with
 | [.slice(some⟨b,o,none⟩) n c,.int .i64 e,.bool m],.inr(.inl V)::s'=>
  match h.blk? b with
  | some x=>some(vN false(hiE V.toNat e)(ofN(hiS V.toNat))(hiM V.toNat m),h,s',[(Z8 x.2 x.1 o n c,true),(decide(Zy x.1 o n=db 4294967296 V.toNat),true),(decide(n≤1000∧ -1000000≤e∧e≤1000000),true)])
  | _=>none
 | _,_=>none
theorem Zv9:Z9 78 Z6s:=by
 intro vals h s v h' s' lg hg hl m B w E hv
 unfold Z6s at hg
 split at hg
 ·rename_i b o n c e mo V s2
  split at hg
  ·rename_i x hx
   cases hg
   have ra:Z8 x.2 x.1 o n c=true:=hl _ List.mem_cons_self
   have q1:=of_decide_eq_true(hl _(List.mem_cons_of_mem _ List.mem_cons_self))
   have q2:=of_decide_eq_true(hl _(List.mem_cons_of_mem _(List.mem_cons_of_mem _(List.mem_singleton.2 rfl))))
   obtain⟨h1,h2,h3,h4,h5,h6,h7⟩:=ZK ra
   rw[q1] at h1 h2
   have r:=Zv8(c:=c)(e:=e)(m:=mo) h1(by omega)(by omega) h4 q2.2
   rw[h2] at r
   exact ZD(T:=Zs Tryz.prog Zf Zo hcN) Tryz.func78 Zv6(ZaJ h7)(vals:=[sl 0 o n c,.int .i64 e,.bool mo])(fun v hv=>by
    simp only[List.mem_cons,List.not_mem_nil,or_false] at hv
    rcases hv with rfl | rfl | rfl<;>rfl)(by rfl) r.w E(s:=fun _=>b)(zO hx h5 h6 rfl)
  ·cases hg
 ·cases hg
end Go.Proofs.YtjlponbdflkbjaaGreatDoor
namespace Go.KRun
open Go.RowKit
structure BelowI(B r:Nat)(w w':World):Prop where
 os:w'.os=w.os
 tape:w'.tape=w.tape
 output:w'.output=w.output
 size:w.heap.size≤w'.heap.size
 block:∀ k,k<B→k≠r→w'.heap[k]? =w.heap[k]?
theorem BelowI.of{B r:Nat}{w w':World}(h:Below B w w'):BelowI B r w w':=⟨h.os,h.tape,h.output,h.size,fun k hk _=>h.block k hk⟩
theorem BelowI.trans{B r:Nat}{w w' w'':World}(h:BelowI B r w w')(g:BelowI B r w' w''):BelowI B r w w'':=
 ⟨g.os.trans h.os,g.tape.trans h.tape,g.output.trans h.output,Nat.le_trans h.size g.size,fun k hk hr=>(g.block k hk hr).trans(h.block k hk hr)⟩
def RunsI(T:Tab)(c:Code)(r:Nat)(s:ByteArray)(p:Nat)(x:Lf)(Post:Ex→Lf→Nat→Prop):Prop:=
 ∀ m B a w,Rel m B x a w→r<B→w.heap[r]? =some(.stringIter s p)→∀ Q:Exit→Act→World→Prop,
  (∀ e y p',Post e y p'→∀ m' a' w',Rel m' B y a' w'→BelowI B r w w'→w'.heap[r]? =some(.stringIter s p')→Q(out e) a' w')→c.wp T.P Q a w
section
variable {T : Tab} {r : Nat} {s : ByteArray}
theorem RunsW.i{c:Code}{p:Nat}{x:Lf}{P:Ex→Lf→Prop}(h:RunsW T c x P):RunsI T c r s p x fun e y p'=>p'=p∧P e y:=by
 intro m B a w R hr hi Q hQ
 refine h m B a w R Q fun e y he m' a' w' R' hb=>hQ e y p⟨rfl,he⟩ m' a' w' R'(BelowI.of hb) ?_
 rw[hb.block r hr]
 exact hi
theorem RunsI.mono{c:Code}{p:Nat}{x:Lf}{P P':Ex→Lf→Nat→Prop}(h:RunsI T c r s p x P)(hp:∀ e y q,P e y q→P' e y q):RunsI T c r s p x P':=
 fun m B a w R hr hi Q hQ=>h m B a w R hr hi Q fun e y p' he=>hQ e y p'(hp e y p' he)
theorem RunsI.seq{c1 c2:Code}{p:Nat}{x:Lf}{P1 P:Ex→Lf→Nat→Prop}(h1:RunsI T c1 r s p x P1)(h2:∀ y q,P1 none y q→RunsI T c2 r s q y P)(h3:∀ e y q,P1(some e) y q→P(some e) y q):RunsI T(.seq c1 c2) r s p x P:=by
 intro m B a w R hr hi Q hQ
 refine wp_seq(h1 m B a w R hr hi _ fun e y q he m' a' w' R' hb hi'=> ?_)
 match e,he with
 | none,he=>exact h2 y q he m' B a' w' R' hr hi' Q fun e' y' q' he' m'' a'' w'' R'' hb' hi''=>hQ e' y' q' he' m'' a'' w'' R''(hb.trans hb') hi''
 | some none,he=>exact hQ _ _ q(h3 none y q he) m' a' w' R' hb hi'
 | some(some id),he=>exact hQ _ _ q(h3(some id) y q he) m' a' w' R' hb hi'
theorem RunsI.block{c:Code}{id p:Nat}{x:Lf}{P1 P:Ex→Lf→Nat→Prop}(h1:RunsI T c r s p x P1)(h2:∀ y q,P1 none y q→P none y q)(h3:∀ y q,P1(some none) y q→P(some none) y q)
  (h4:∀ y q,P1(some(some id)) y q→P none y q)(h5:∀ id' y q,id'≠id→P1(some(some id')) y q→P(some(some id')) y q):RunsI T(.block id c) r s p x P:=by
 intro m B a w R hr hi Q hQ
 refine wp_block(h1 m B a w R hr hi _ fun e y q he m' a' w' R' hb hi'=> ?_)
 match e,he with
 | none,he=>exact hQ _ _ q(h2 y q he) m' a' w' R' hb hi'
 | some none,he=>exact hQ _ _ q(h3 y q he) m' a' w' R' hb hi'
 | some(some id'),he=>
  simp only[out,Exit.inBlock]
  by_cases hid:id'=id
  ·subst hid
   rw[if_pos rfl]
   exact hQ _ _ q(h4 y q he) m' a' w' R' hb hi'
  ·rw[if_neg hid]
   exact hQ _ _ q(h5 id' y q hid he) m' a' w' R' hb hi'
theorem RunsI.loop{c:Code}{p:Nat}{x:Lf}{P:Ex→Lf→Nat→Prop}(Inv:Nat→Lf→Nat→Prop)(round:∀ n x q,Inv n x q→RunsI T c r s q x fun e y q'=>match e with | none=>∃ n',n'<n∧Inv n' y q' | some e=>P(some e) y q'){n:Nat}(h0:Inv n x p):
  RunsI T(.loop c) r s p x P:=by
 have key:∀ N n x p,n<N→Inv n x p→∀ m B a w,Rel m B x a w→r<B→w.heap[r]? =some(.stringIter s p)→∀ Q:Exit→Act→World→Prop,(∀ e y p',P e y p'→∀ m' a' w',Rel m' B y a' w'→BelowI B r w w'→w'.heap[r]? =some(.stringIter s p')→Q(out e) a' w')→Code.rounds T.P c Q N a w:=by
  intro N
  induction N with
  | zero=>intro n x p hn;omega
  | succ N ih=>
   intro n x p hn hI m B a w R hr hi Q hQ
   rw[rounds_succ]
   refine round n x p hI m B a w R hr hi _ fun e y q he m' a' w' R' hb hi'=> ?_
   match e,he with
   | none,he=>
    obtain⟨n',hn',hI'⟩:=he
    exact ih n' y q(by omega) hI' m' B a' w' R' hr hi' Q fun e' y' q' he' m'' a'' w'' R'' hb' hi''=>hQ e' y' q' he' m'' a'' w'' R''(hb.trans hb') hi''
   | some none,he=>exact hQ _ _ q he m' a' w' R' hb hi'
   | some(some id),he=>exact hQ _ _ q he m' a' w' R' hb hi'
 intro m B a w R hr hi Q hQ
 exact wp_loop_rounds(n+1)(key(n+1) n x p(by omega) h0 m B a w R hr hi Q hQ)
theorem RunsI.forLoop{c:Code}{id p:Nat}{x:Lf}{P:Lf→Nat→Prop}{R:Lf→Nat→Prop}(Inv:Nat→Lf→Nat→Prop)
  (round:∀ n x q,Inv n x q→RunsI T c r s q x fun e y q'=>match e with | none=>∃ n',n'<n∧Inv n' y q' | some none=>R y q' | some(some id')=>id'=id∧P y q'){n:Nat}(h0:Inv n x p):
  RunsI T(.block id(.loop c)) r s p x fun e y q=>match e with | none=>P y q | some none=>R y q | some(some _)=>False:=by
 refine RunsI.block(P1:=fun e y q=>match e with | none=>False | some none=>R y q | some(some id')=>id'=id∧P y q) ?_(fun y q he=>he.elim)(fun y q he=>he)(fun y q he=>he.2)(fun id' y q hid he=>absurd he.1 hid)
 refine RunsI.loop Inv(fun n x q hI=>(round n x q hI).mono fun e y q' he=> ?_) h0
 match e,he with
 | none,he=>exact he
 | some none,he=>exact he
 | some(some id'),he=>exact he
end
def hT1:Hp:=⟨1,[([],2*ZW)]⟩
theorem ZvA{b:Nat}{x:List Value×TypeId}(h:hT1.blk? b=some x):x=([],2*ZW):=by
 have hb:b<1:=Hp.blk_lt h
 have h0:b=0:=by omega
 subst h0
 exact(Option.some.inj h).symm
theorem Ztj(m:Mp){B:Nat}{w:World}(hB:B≤w.heap.size)(hi:∀ k,B≤k→k<w.heap.size→Zzn w.heap[k]?):Emb m B hT1 w:=by
 have t1:Zal(2*ZW)=true:=by kernel_rfl
 have r1:ro(2*ZW)=true:=by kernel_rfl
 have a1:ab(2*ZW)=false:=by kernel_rfl
 refine⟨rfl,fun b x hb ht=> ?_,fun b x hb hr=> ?_,fun b x hb ht=> ?_,fun b b' x x' hb _ hr=> ?_,fun b x hb v hv=> ?_,hB,hi,fun b x hb ha=> ?_⟩<;>rw[ZvA hb] at*
 ·rw[t1] at ht;cases ht
 ·rw[r1] at hr;cases hr
 ·rw[t1] at ht;cases ht
 ·rw[r1] at hr;cases hr
 ·cases hv
 ·rw[a1] at ha;cases ha
theorem ZbZ{P:Program}{ops:Array Oper}{Q:Exit→Act→World→Prop}{i:Nat}{K:Act→World→Prop}{a:Act}{w w':World}{o:Oper}{v:Value}(hi:ops[i]? =some o)(hg:o.guard=none)(hr:(execOp a.eval o).run P w= .ok(.value v) w')(hK:K(a.put o.dst v) w'):wpOp P ops Q i K a w:=by
 unfold wpOp
 have hw:Region.wanted o(yielded ops a.tmps)=true:=by unfold Region.wanted;rw[hg]
 simp only[hi,hw,if_true]
 left
 unfold Oper.wp
 rw[hr,Oper.upon_value]
 exact hK
theorem Zm0{P:Program}{a:Act}{o:Oper}{x:Operand}(ho:o.op= .move x)(w:World):(execOp a.eval o).run P w= .ok(.value(a.eval x)) w:=by
 unfold execOp
 rw[ho]
 simp
theorem ZjH{P:Program}{a:Act}{o:Oper}{x:Operand}{ty:TypeId}(ho:o.op= .range ty x){s:ByteArray}(hx:a.eval x= .string s)(hty:P.underlying ty=some .string)(w:World):
  (execOp a.eval o).run P w= .ok(.value(.pointer(some⟨w.heap.size,0,none⟩)))(w.iter s 0):=by
 unfold execOp
 rw[ho]
 simp [hx,run_range_string w ty s hty]
theorem RunsW.overString{T:Tab}{c:Code}{id:Nat}{o1 o2:Oper}(g1:o1.guard=none)(g2:o2.guard=none){j d1 d2:Nat}{ty:TypeId}(e1:o1.op= .move(.tmp j))(e2:o2.op= .range ty(.tmp d1))(k1:o1.dst=some d1)(k2:o2.dst=some d2)
  (hty:T.P.underlying ty=some .string){t:List Value}{s:ByteArray}(hj:t[j]? =some(.string s))(hd:d1<t.length){sc:List Dec}{P:Ex→Lf→Prop}
  (hI:∀ r,RunsI T c r s 0((t.set d1(.string s)).set d2(.iface ZW(.pointer(some⟨r,0,none⟩))),hT1,[]) fun e y _=>y.2.1=hT1∧P e y):
  RunsW T(.seq(.region id #[o1,o2] false) c)(t,⟨0,[]⟩,sc) P:=by
 intro m B a w R Q hQ
 refine wp_seq(wp_region ?_)
 show wpOps T.P #[o1,o2] _ [0,1] a w
 rw[wpOps_cons]
 have ev1:a.eval(.tmp j)= .string s:=by
  rw[Zz R.tmps(x:= .tmp j) rfl]
  simp [ev,List.getD,hj,mv,mv2,mv1]
 refine ZbZ(o:=o1)(by rfl) g1(Zm0 e1 w) ?_
 rw[ev1,k1,wpOps_cons]
 have R1:Rel m B(t.set d1(.string s),⟨0,[]⟩,[])(a.put(some d1)(.string s)) w:=R.put(v:= .string s)(Agree.refl _ _) R.emb(Nat.le_refl _)(by simp [lt,lt2,lt1])(some d1) []
 have ev2:(a.put(some d1)(.string s)).eval(.tmp d1)= .string s:=by
  rw[Zz R1.tmps(x:= .tmp d1) rfl]
  simp [ev,List.getD,hd,mv,mv2,mv1]
 refine ZbZ(o:=o2)(by rfl) g2(ZjH e2 ev2 hty w) ?_
 rw[k2]
 show wpOps T.P #[o1,o2] _ [] _ _
 have hsz:(w.iter s 0).heap.size=w.heap.size+1:=Zcg w _
 have hold:∀ k,k<w.heap.size→(w.iter s 0).heap[k]? =w.heap[k]? :=fun k hk=>Za3 w _ k(by omega)
 have R2:Rel m(w.heap.size+1)((t.set d1(.string s)).set d2(.iface ZW(.pointer(some⟨w.heap.size,0,none⟩))),hT1,[])((a.put(some d1)(.string s)).put(some d2)(.pointer(some⟨w.heap.size,0,none⟩)))(w.iter s 0):=by
  have E:Emb m(w.heap.size+1) hT1(w.iter s 0):=Ztj m(by omega)(fun k h1 h2=>by omega)
  have R1':Rel m(w.heap.size+1)(t.set d1(.string s),hT1,[])(a.put(some d1)(.string s))(w.iter s 0):=⟨R1.tmps,R1.dfr,E,fun v hv=>zT(Nat.zero_le _)(R1.wf v hv)⟩
  have:=R1'.put(v:= .iface ZW(.pointer(some⟨w.heap.size,0,none⟩)))(Agree.refl _ _) E(Nat.le_refl _)(by simp [lt,lt2,lt1,hT1])(some d2) []
  have em:mv m(.iface ZW(.pointer(some⟨w.heap.size,0,none⟩)))= .pointer(some⟨w.heap.size,0,none⟩):=by simp [mv,mv2,mv1]
  rw[em] at this
  exact this
 refine hI w.heap.size m(w.heap.size+1) _ _ R2(Nat.lt_succ_self _)(World.iter_heap w s 0) Q fun e y p' hp m' a' w' R' hb hi=> ?_
 obtain⟨hy,hP⟩:=hp
 have hB:=R.emb.base
 have Eb:∀ k,k<w.heap.size→w'.heap[k]? =w.heap[k]? :=fun k hk=>by rw[hb.block k(by omega)(by omega),hold k hk]
 have E':Emb m' B hT1 w':=by
  refine Ztj m' ?_ fun k h1 h2=> ?_
  ·have:=hb.size;omega
  ·rcases Nat.lt_trichotomy k w.heap.size with h | h | h
   ·rw[Eb k h];exact R.emb.ice k h1 h
   ·subst h
    rw[hi]
    intro c e z hz
    cases hz
   ·have:=R'.emb.ice k(by omega) h2
    exact this
 obtain⟨ty',hy',sy⟩:=y
 simp only at hy
 subst hy
 exact hQ e _ hP m' a' w'⟨R'.tmps,R'.dfr,E',R'.wf⟩⟨hb.os,hb.tape,hb.output,by have:=hb.size;omega,fun k hk=>Eb k(by omega)⟩
def World.setIt(w:World)(r:Nat)(s:ByteArray)(p:Nat):World:={w with heap:=w.heap.setIfInBounds r(.stringIter s p)}
theorem Zdg(w:World)(r:Nat)(s:ByteArray)(p:Nat):(World.setIt w r s p).heap.size=w.heap.size:=by simp [World.setIt]
theorem Zqv{w:World}{r:Nat}(s:ByteArray)(p:Nat)(h:r<w.heap.size):(World.setIt w r s p).heap[r]? =some(.stringIter s p):=by simp [World.setIt,h]
theorem ZdD(w:World){r k:Nat}(s:ByteArray)(p:Nat)(h:k≠r):(World.setIt w r s p).heap[k]? =w.heap[k]? :=by
 simp only[World.setIt]
 rw[Array.getElem?_setIfInBounds]
 simp [Ne.symm h]
theorem Zm1{m:Mp}{B:Nat}{h:Hp}{w:World}(E:Emb m B h w){r q:Nat}{s u:ByteArray}(hr:r<B)(hi:w.heap[r]? =some(.stringIter s q))(p:Nat):Emb m B h(World.setIt w r u p):=by
 have ne:∀ {k:Nat}{c:Array Value}{t:TypeId}{z:Nat×Nat},w.heap[k]? =some(.cells c t z)→k≠r:=fun{k c t z} hk he=>by
  subst he
  rw[hi] at hk
  cases hk
 refine⟨E.len,fun b x hb ht=> ?_,E.low,E.ros,E.inj,E.wf,by rw[Zdg];exact E.base,fun k h1 h2=> ?_,fun b x hb ha=> ?_⟩
 ·have hl:=E.lies b x hb ht
  refine hl.congr(ZdD w u p ?_)
  obtain⟨r',z,_,l1,_⟩:=hl
  exact ne l1
 ·rw[Zdg] at h2
  rw[ZdD w u p(by omega)]
  exact E.ice k h1 h2
 ·obtain⟨k1,r',t,z,k2⟩:=E.abs b x hb ha
  exact⟨k1,r',t,z,by rw[ZdD w u p(ne k2)];exact k2⟩
theorem Zm2{P:Program}{a:Act}{o:Oper}{x:Operand}(ho:o.op= .next x true){r p:Nat}{s:ByteArray}(hx:a.eval x= .pointer(some⟨r,0,none⟩)){w:World}(hi:w.heap[r]? =some(.stringIter s p))(hp:p<s.size):
  (execOp a.eval o).run P w= .ok(.value(.tuple #[.bool true,.int .i64 p,.int .i32(Utf8.decode s p).1]))(World.setIt w r s(p+(Utf8.decode s p).2)):=by
 unfold execOp
 rw[ho]
 simp [hx,Instr.next,getObj,setObj,Sem.run,hi,hp,goInt,World.setIt]
theorem Zm3{P:Program}{a:Act}{o:Oper}{x:Operand}(ho:o.op= .next x true){r p:Nat}{s:ByteArray}(hx:a.eval x= .pointer(some⟨r,0,none⟩)){w:World}(hi:w.heap[r]? =some(.stringIter s p))(hp:¬ p<s.size):
  (execOp a.eval o).run P w= .ok(.value(.tuple #[.bool false])) w:=by
 unfold execOp
 rw[ho]
 simp [hx,Instr.next,getObj,Sem.run,hi,hp]
theorem Zdv{P:Program}{a:Act}{o:Oper}{x:Operand}{k:Nat}(ho:o.op= .extract x k){vs:Array Value}{v:Value}(hx:a.eval x= .tuple vs)(hv:vs[k]? =some v)(w:World):(execOp a.eval o).run P w= .ok(.value v) w:=by
 unfold execOp
 rw[ho]
 simp [hx,Instr.extract,hv]
def itV(s:ByteArray)(p:Nat):Value:= .tuple #[.bool true,.int .i64 p,.int .i32(Utf8.decode s p).1]
theorem RunsI.step{T:Tab}{r:Nat}{s:ByteArray}{id:Nat}{o1 o2:Oper}(g1:o1.guard=none)(g2:o2.guard=none){j d1 d2:Nat}(e1:o1.op= .next(.tmp j) true)(e2:o2.op= .extract(.tmp d1) 0)(k1:o1.dst=some d1)(k2:o2.dst=some d2)
  {t:List Value}{h:Hp}{sc:List Dec}{p:Nat}(hj:t[j]? =some(.iface ZW(.pointer(some⟨r,0,none⟩))))(hd:d1<t.length):
  RunsI T(.region id #[o1,o2] false) r s p(t,h,sc) fun e y q=>e=none∧y.2.1=h∧((p<s.size∧q=p+(Utf8.decode s p).2∧y.1=(t.set d1(itV s p)).set d2(.bool true))∨(¬ p<s.size∧q=p∧y.1=(t.set d1(.tuple #[.bool false])).set d2(.bool false))):=by
 intro m B a w R hr hi Q hQ
 refine wp_region ?_
 show wpOps T.P #[o1,o2] _ [0,1] a w
 rw[wpOps_cons]
 have ev1:a.eval(.tmp j)= .pointer(some⟨r,0,none⟩):=by
  rw[Zz R.tmps(x:= .tmp j) rfl]
  simp [ev,List.getD,hj,mv,mv2,mv1]
 have hB:=R.emb.base
 by_cases hp:p<s.size
 ·refine ZbZ(o:=o1)(by rfl) g1(Zm2 e1 ev1 hi hp) ?_
  rw[k1,wpOps_cons]
  have E1:=Zm1(u:=s) R.emb hr hi(p+(Utf8.decode s p).2)
  have R0:Rel m B(t,h,sc) a(World.setIt w r s(p+(Utf8.decode s p).2)):=⟨R.tmps,R.dfr,E1,R.wf⟩
  have m1:mv m(itV s p)=itV s p:=by simp [itV,mv,mv2,mv1]
  have R1:=R0.put(v:=itV s p)(Agree.refl _ _) E1(Nat.le_refl _)(by simp [itV,lt,lt2,lt1])(some d1) []
  rw[m1] at R1
  have ev2:(a.put(some d1)(itV s p)).eval(.tmp d1)=itV s p:=by
   rw[Zz R1.tmps(x:= .tmp d1) rfl]
   simp [ev,Ze3,List.getD,hd,m1]
  refine ZbZ(o:=o2)(v:= .bool true)(by rfl) g2(Zdv e2 ev2(by rfl) _) ?_
  rw[k2]
  show Q .normal _ _
  have R2:=R1.put(v:= .bool true)(Agree.refl _ _) E1(Nat.le_refl _)(by simp [lt,lt2,lt1])(some d2) []
  have m2:mv m(.bool true)= .bool true:=by simp [mv,mv2,mv1]
  rw[m2] at R2
  exact hQ none _ _⟨rfl,rfl,.inl⟨hp,rfl,rfl⟩⟩ m _ _ R2⟨rfl,rfl,rfl,by rw[Zdg];exact Nat.le_refl _,fun k _ hk=>ZdD w s _ hk⟩(Zqv s _(by omega))
 ·refine ZbZ(o:=o1)(by rfl) g1(Zm3 e1 ev1 hi hp) ?_
  rw[k1,wpOps_cons]
  have m1:mv m(.tuple #[.bool false])= .tuple #[.bool false]:=by simp [mv,mv2,mv1]
  have R1:=R.put(v:= .tuple #[.bool false])(Agree.refl _ _) R.emb(Nat.le_refl _)(by simp [lt,lt2,lt1])(some d1) []
  rw[m1] at R1
  have ev2:(a.put(some d1)(.tuple #[.bool false])).eval(.tmp d1)= .tuple #[.bool false]:=by
   rw[Zz R1.tmps(x:= .tmp d1) rfl]
   simp [ev,Ze3,List.getD,hd,m1]
  refine ZbZ(o:=o2)(v:= .bool false)(by rfl) g2(Zdv e2 ev2(by rfl) _) ?_
  rw[k2]
  show Q .normal _ _
  have R2:=R1.put(v:= .bool false)(Agree.refl _ _) R.emb(Nat.le_refl _)(by simp [lt,lt2,lt1])(some d2) []
  have m2:mv m(.bool false)= .bool false:=by simp [mv,mv2,mv1]
  rw[m2] at R2
  exact hQ none _ _⟨rfl,rfl,.inr⟨hp,rfl,rfl⟩⟩ m _ _ R2(BelowI.of(Below.refl _ _)) hi
end Go.KRun
namespace Go.Proofs.YtjlponbdflkbjaaGreatDoor.Na
open Go.KRun
set_option maxRecDepth 100000
set_option linter.unusedVariables false
def Zga(c:Int):Bool:=decide(c<48) || decide(c>57)
def fO:Value:= .func(.func 109) #[] #[]
theorem Z9x(c:Int):Z7(Zn(Zi Tryz.prog Zf Zo true) 100 109 [.int .i32 c] [cmp true])(.bool true) [(decide(c<48),true)]:=⟨by kernel_rfl,by kernel_rfl,by kernel_rfl,by kernel_rfl⟩
theorem Z9y(c:Int)(d:Bool):Z7(Zn(Zi Tryz.prog Zf Zo true) 100 109 [.int .i32 c] [cmp false,cmp d])(.bool d) [(decide(c>57),d),(decide(c<48),false)]:=⟨by kernel_rfl,by kernel_rfl,by kernel_rfl,by kernel_rfl⟩
def gOd:Ans:=fun vals s=>
 match vals,s with
 | [.int .i32 c],.inr(.inr(.inr(.inl d)))::s'=>some(.bool d,s',[(Zga c,d)])
 | _,_=>none
theorem Z0I:ZT 109 gOd:=by
 intro vals s v s' lg h hl w
 unfold gOd at h
 split at h
 ·rename_i c d s2
  cases h
  have hd:Zga c=d:=hl _(List.mem_singleton.2 rfl)
  unfold Zga at hd
  by_cases h1:c<48
  ·rw[decide_eq_true h1,Bool.true_or] at hd
   subst hd
   exact Zc(Zk Zd)(Z9x c)(Z3(decide_eq_true h1))(by rfl)(by rfl) w
  ·rw[decide_eq_false h1,Bool.false_or] at hd
   exact Zc(Zk Zd)(Z9y c d)(Za hd(Z3(decide_eq_false h1)))(by rfl)(by rfl) w
 ·cases h
def Z0J:Con:=alt 109 gOd Zo
theorem Zqw:ConOk Z0J:=ZA Tryz.func109 rfl Z0I Zd
noncomputable def tabOd:Tab:=Zi Tryz.prog Zf Z0J true
theorem ZcB:TabOk tabOd:=Zk Zqw
def iR0(F:Func):Code:=Z5(Zt F)
def iR1(F:Func):Code:=Z5(Z5(Z0(Zt F)))
def iLp(F:Func):Code:=Z0(Z5(Z0(Zt F)))
def iFn(F:Func):Code:=Z0(Z0(Zt F))
def iR2(F:Func):Code:=Z5(cIn(cIn(iLp F)))
def iBd(F:Func):Code:=Z0(cIn(cIn(iLp F)))
def iF(s:ByteArray)(a:Nat→Value):List Value:=[.string s,fO,.bool true,a 3,a 4,a 5,.int .i64 0,a 7,a 8,a 9]
def Zqx(r:Nat):Value:= .iface ZW(.pointer(some⟨r,0,none⟩))
def Z6t(q c:Int):Value:= .tuple #[.bool true,.int .i64 q,.int .i32 c]
theorem Z6u(s:ByteArray)(q c:Int)(r:Nat)(a g:Nat→Value):Zg(evC tabOd 300 false(iBd Tryz.f145)(iF s a++[Zqx r,Z6t q c,.bool true]++tl 8 g,hT1,[cmp false])⟨[],[],[]⟩) 11 10 none [.string s,fO,.bool true,a 3,a 4,a 5,.int .i64 0,.int .i64 q,.int .i32 c,a 9,Zqx r] hT1 [(Zga c,false)]:=⟨by kernel_rfl,by kernel_rfl,by kernel_rfl⟩
theorem Z6v(s:ByteArray)(q c:Int)(r:Nat)(a g:Nat→Value):Zg(evC tabOd 300 false(iBd Tryz.f145)(iF s a++[Zqx r,Z6t q c,.bool true]++tl 8 g,hT1,[cmp true])⟨[],[],[]⟩) 7 14(some none) [.string s,fO,.bool true,a 3,a 4,a 5,.int .i64 q] hT1 [(Zga c,true)]:=⟨by kernel_rfl,by kernel_rfl,by kernel_rfl⟩
theorem Z0K(s:ByteArray)(r:Nat)(a g:Nat→Value):Zg(evC tabOd 300 false(iBd Tryz.f145)(iF s a++[Zqx r,.tuple #[.bool false],.bool false]++tl 8 g,hT1,[])⟨[],[],[]⟩) 10 11(some(some 0))(iF s a) hT1 []:=⟨by kernel_rfl,by kernel_rfl,by kernel_rfl⟩
theorem Z0L(s:ByteArray)(a g:Nat→Value):Zg(evC tabOd 300 false(iFn Tryz.f145)(iF s a++tl 11 g,hT1,[])⟨[],[],[]⟩) 7 14(some none) [.string s,fO,.bool true,a 3,a 4,a 5,.int .i64(-1)] hT1 []:=⟨by kernel_rfl,by kernel_rfl,by kernel_rfl⟩
theorem Z6w(s:ByteArray):Zg(evL tabOd 300 [iR0 Tryz.f145]([.string s,fO,.bool true]++List.replicate 18 undef,⟨0,[]⟩,[])⟨[],[],[]⟩) 7 14 none [.string s,fO,.bool true,undef,undef,undef,.int .i64 0]⟨0,[]⟩ []:=⟨by kernel_rfl,by kernel_rfl,by kernel_rfl⟩
def byT(s:ByteArray)(k:Nat):Int:=((s.data.toList.getD k 0).toNat:Nat)
def ixR(s:ByteArray):Nat→Int
 | 0=> -1
 | n+1=>if Zga(byT s(s.size-(n+1)))=true then((s.size-(n+1):Nat):Int) else ixR s n
def ixV(s:ByteArray):Int:=ixR s s.size
def Z6x:Code→Array Oper
 | .region _ ops _=>ops
 | _=> #[]
def Zqy(c:Code)(k:Nat):Oper:=((Z6x c)[k]?).getD⟨none,.move(.tmp 0),0, "",#[],none⟩
theorem Z0M:iLp Tryz.f145= .block 0(.loop(.seq(.region 2 #[Zqy(iR2 Tryz.f145) 0,Zqy(iR2 Tryz.f145) 1] false)(iBd Tryz.f145))):=by kernel_rfl
theorem Z0N:iR1 Tryz.f145= .region 1 #[Zqy(iR1 Tryz.f145) 0,Zqy(iR1 Tryz.f145) 1] false:=by kernel_rfl
theorem Z6y:Zt Tryz.f145=za [iR0 Tryz.f145](.seq(.seq(iR1 Tryz.f145)(iLp Tryz.f145))(iFn Tryz.f145)):=by kernel_rfl
theorem Zm4{s:ByteArray}{p:Nat}(h:p<s.size):byT s p=((s[p]'h).toNat:Nat):=by
 unfold byT
 have e:s.data.toList.getD p 0=s[p]'h:=by
  have h2:p<s.data.toList.length:=h
  simp only[List.getD,List.getElem?_eq_getElem h2,Option.getD_some]
  rfl
 rw[e]
theorem Zqz{s:ByteArray}{p:Nat}(h:p<s.size):Zga(((Utf8.decode s p).1:Nat):Int)=Zga(byT s p)∧(Zga(byT s p)=false→(Utf8.decode s p).2=1):=by
 by_cases ha:(s[p]'h).toNat<128
 ·rw[decode_ascii s p h ha,Zm4 h]
  exact⟨rfl,fun _=>rfl⟩
 ·have hd:=(decode_high s p h(by omega)).1
  have e1:Zga(byT s p)=true:=by
   rw[Zm4 h]
   unfold Zga
   rw[decide_eq_true(show(((s[p]'h).toNat:Nat):Int)>57 by omega),Bool.or_true]
  refine⟨?_,fun h'=>by rw[e1] at h';cases h'⟩
  rw[e1]
  unfold Zga
  rw[decide_eq_true(show(((Utf8.decode s p).1:Nat):Int)>57 by omega),Bool.or_true]
theorem Zq0{s:ByteArray}{q:Nat}(h:q<s.size):ixR s(s.size-q)=if Zga(byT s q)=true then(q:Int) else ixR s(s.size-(q+1)):=by
 obtain⟨n,hn⟩:∃ n,s.size-q=n+1:=⟨s.size-q-1,by omega⟩
 rw[hn,show s.size-(q+1)=n by omega]
 simp only[ixR]
 rw[show s.size-(n+1)=q by omega]
theorem ZvB{s:ByteArray}(r:Nat)(a g:Nat→Value)(x y:Value):
  RunsI tabOd(iLp Tryz.f145) r s 0(iF s a++[Zqx r,x,y]++tl 8 g,hT1,[]) fun e z _=>z.2.1=hT1∧match e with
   | none=>ixV s= -1∧∃ a g,z.1=iF s a++tl 11 g
   | some none=>∃ u v w g,z.1=[.string s,fO,.bool true,u,v,w,.int .i64(ixV s)]++tl 14 g
   | some(some _)=>False:=by
 rw[Z0M]
 refine(RunsI.forLoop(P:=fun z _=>z.2.1=hT1∧ixV s= -1∧∃ a g,z.1=iF s a++tl 11 g)
  (R:=fun z _=>z.2.1=hT1∧∃ u v w g,z.1=[.string s,fO,.bool true,u,v,w,.int .i64(ixV s)]++tl 14 g)
  (fun n z q=>n+q=s.size∧ixR s(s.size-q)=ixV s∧z.2.1=hT1∧∃ a x y g,z.1=iF s a++[Zqx r,x,y]++tl 8 g) ?_(n:=s.size)⟨by omega,rfl,rfl,a,x,y,g,rfl⟩).mono fun e z q he=> ?_
 ·rintro n⟨t,h',sc⟩ q⟨hn,hA,hh,a,x,y,g,ht⟩
  simp only at hh ht
  subst hh ht
  refine RunsI.seq(RunsI.step(j:=10)(d1:=11)(d2:=12)(by kernel_rfl)(by kernel_rfl)(by kernel_rfl)(by kernel_rfl)(by kernel_rfl)(by kernel_rfl)(by rfl)(by simp [iF,tl])) ?_(fun e y q he=>by cases he.1)
  rintro⟨t,h',sc'⟩ q'⟨_,hh,hc⟩
  simp only at hh
  subst hh
  rcases hc with⟨hq,hq',ht⟩ | ⟨hq,hq',ht⟩
  ·simp only at ht
   have et:t=iF s a++[Zqx r,Z6t(q:Nat)((Utf8.decode s q).1:Nat),.bool true]++tl 8 g:=by rw[ht];rfl
   subst et
   obtain⟨r1,r2⟩:=Zqz hq
   rw[Zq0 hq] at hA
   cases hk:Zga(byT s q) with
   | false=>
    rw[hk,if_neg(by decide)] at hA
    refine((Ze ZcB(Z6u s(q:Nat)((Utf8.decode s q).1:Nat) r a g)(Z3(r1.trans hk))).i).mono fun e z q2 he=> ?_
    obtain⟨rfl,rfl,⟨g1,e2⟩,e3⟩:=he
    rw[r2 hk] at hq'
    refine⟨n-1,by omega,by omega,by rw[hq'];exact hA,e3,?_⟩
    refine⟨fun k=>z.1.getD k undef,g1 0,g1 1,fun k=>g1(k+2),?_⟩
    rw[e2]
    rfl
   | true=>
    rw[hk,if_pos rfl] at hA
    refine((Ze ZcB(Z6v s(q:Nat)((Utf8.decode s q).1:Nat) r a g)(Z3(r1.trans hk))).i).mono fun e z q2 he=> ?_
    obtain⟨rfl,rfl,⟨g1,e2⟩,e3⟩:=he
    rw[hA] at e2
    exact⟨e3,_,_,_,g1,e2⟩
  ·simp only at ht
   have et:t=iF s a++[Zqx r,.tuple #[.bool false],.bool false]++tl 8 g:=by rw[ht];rfl
   subst et
   have hqs:q=s.size:=by omega
   refine((Ze ZcB(Z0K s r a g)(fun x hx=>by cases hx)).i).mono fun e z q2 he=> ?_
   obtain⟨rfl,rfl,⟨g1,e2⟩,e3⟩:=he
   rw[hqs,Nat.sub_self] at hA
   exact⟨rfl,e3,hA.symm,a,g1,e2⟩
 ·match e,he with
  | none,he=>exact he
  | some none,he=>exact he
theorem Z0O(s:ByteArray):RunsW tabOd(Zt Tryz.f145)([.string s,fO,.bool true]++List.replicate 18 undef,⟨0,[]⟩,[]) fun e y=>(e=none∨e=some none)∧ZZ Tryz.prog Tryz.f145 y.1 y.2.1=some(.int .i64(ixV s)):=by
 rw[Z6y]
 refine Z1 ZcB(Z6w s) ZyU fun g=> ?_
 refine RunsW.seq(P1:=fun e z=>z.2.1=hT1∧match e with
   | none=>ixV s= -1∧∃ a g,z.1=iF s a++tl 11 g
   | some none=>∃ u v w g,z.1=[.string s,fO,.bool true,u,v,w,.int .i64(ixV s)]++tl 14 g
   | some(some _)=>False) ?_ ?_ ?_
 ·rw[Z0N]
  refine RunsW.overString(j:=0)(d1:=9)(d2:=10)(ty:=9)(by kernel_rfl)(by kernel_rfl)(by kernel_rfl)(by kernel_rfl)(by kernel_rfl)(by kernel_rfl)(by kernel_rfl)(by rfl)(by simp [tl]) fun r=> ?_
  have et:(([.string s,fO,.bool true,undef,undef,undef,.int .i64 0]++tl 14 g).set 9(.string s)).set 10(.iface ZW(.pointer(some⟨r,0,none⟩)))=
    iF s(fun k=>(([.string s,fO,.bool true,undef,undef,undef,.int .i64 0]++tl 14 g).set 9(.string s)).getD k undef)++[Zqx r,g 4,g 5]++tl 8(fun k=>g(k+6)):=by rfl
  rw[et]
  exact(ZvB r _ _ _ _).mono fun e z q he=>⟨he.1,he⟩
 ·rintro⟨t,h',sc⟩⟨hh,hA,a,g1,ht⟩
  simp only at hh ht
  subst hh ht
  refine(Ze ZcB(Z0L s a g1)(fun x hx=>by cases hx)).mono fun e z he=> ?_
  obtain⟨rfl,⟨g2,e2⟩,e3⟩:=he
  refine⟨.inr rfl,?_⟩
  rw[e2,e3,hA]
  rfl
 ·rintro e⟨t,h',sc⟩⟨hh,hc⟩
  match e,hc with
  | none,hc=>
   obtain⟨u,v,w,g1,ht⟩:=hc
   simp only at hh ht
   subst hh ht
   exact⟨.inr rfl,rfl⟩
theorem Zq1(s:ByteArray)(w:World):Calls Tryz.prog 145 #[.string s,fO,.bool true] w fun e w'=>e= .returned(.int .i64(ixV s))∧Zad w w':=
 Ze4(T:=tabOd)(c:=Zt Tryz.f145)(vals:=[.string s,fO,.bool true]) Tryz.func145(by kernel_rfl)(by rfl)(by rfl)(Z0O s) w
def gIx:Ans:=fun vals s=>
 match vals with
 | [.string b,.func(.func f)⟨[]⟩⟨[]⟩,.bool true]=>some(.int .i64(ixV b),s,[(Nat.beq f 109,true)])
 | _=>none
theorem Z0P:ZT 145 gIx:=by
 intro vals s v s' lg h hl w
 unfold gIx at h
 split at h
 ·rename_i b f
  cases h
  have hf:=Nat.eq_of_beq_eq_true(hl _(List.mem_singleton.2 rfl))
  subst hf
  exact Zq1 b w
 ·cases h
def Zj5:Con:=alt 145 gIx Zo
theorem ZdB:ConOk Zj5:=ZA Tryz.func145 rfl Z0P Zd
theorem ZvC(s:ByteArray)(d:Bool):Z7(Zn(Zi Tryz.prog Zf Zj5 true) 100 110 [.string s,fO] [cmp d])(.bool d) [(decide(ixV s≥0),d),(true,true)]:=⟨by kernel_rfl,by kernel_rfl,by kernel_rfl,by kernel_rfl⟩
def gCf:Ans:=fun vals s=>
 match vals,s with
 | [.string b,.func(.func f)⟨[]⟩⟨[]⟩],.inr(.inr(.inr(.inl d)))::s'=>some(.bool d,s',[(decide(ixV b≥0),d),(Nat.beq f 109,true)])
 | _,_=>none
theorem Z0Q:ZT 110 gCf:=by
 intro vals s v s' lg h hl w
 unfold gCf at h
 split at h
 ·rename_i b f d s2
  cases h
  have h1:=hl _ List.mem_cons_self
  have hf:=Nat.eq_of_beq_eq_true(hl _(List.mem_cons_of_mem _(List.mem_singleton.2 rfl)))
  subst hf
  exact Zc(Zk ZdB)(ZvC b d)(Za h1(Z3 rfl))(by rfl)(by rfl) w
 ·cases h
def ZoG(s:ByteArray):Prop:=∀ j,j<s.size→Zga(byT s j)=false
theorem Zm5(s:ByteArray):∀ n,n≤s.size→(ixR s n<0↔∀ j,s.size-n≤j→j<s.size→Zga(byT s j)=false)
 | 0,_=>by simp [ixR];intro j h1 h2;omega
 | n+1,hn=>by
  simp only[ixR]
  cases hk:Zga(byT s(s.size-(n+1))) with
  | true=>
   rw[if_pos rfl]
   constructor
   ·intro h;omega
   ·intro h
    have:=h(s.size-(n+1))(Nat.le_refl _)(by omega)
    rw[hk] at this
    cases this
  | false=>
   rw[if_neg(by decide),Zm5 s n(by omega)]
   constructor
   ·intro h j h1 h2
    by_cases h3:j=s.size-(n+1)
    ·rw[h3];exact hk
    ·exact h j(by omega) h2
   ·intro h j h1 h2
    exact h j(by omega) h2
theorem ZbL(s:ByteArray):¬ ixV s≥0↔ZoG s:=by
 have h:=Zm5 s s.size(Nat.le_refl _)
 unfold ixV ZoG
 constructor
 ·intro h1 j hj
  exact h.1(by omega) j(by omega) hj
 ·intro h1 h2
  have:=h.2 fun j _ hj=>h1 j hj
  omega
end Go.Proofs.YtjlponbdflkbjaaGreatDoor.Na
namespace Go.Proofs.YtjlponbdflkbjaaGreatDoor.Na
open Go.KRun Go.Nt
set_option maxRecDepth 100000
theorem Zm6(W:List Int)(k:Nat):Zy(wU W) 0 k=W.take k:=by
 unfold Zy Zb5 wU
 rw[List.drop_zero,← List.map_take,List.map_map]
 exact(List.map_congr_left fun x _=>rfl).trans(List.map_id' _)
end Go.Proofs.YtjlponbdflkbjaaGreatDoor.Na
namespace Go.Proofs.YtjlponbdflkbjaaGreatDoor.Na
open Go.KRun
set_option maxRecDepth 100000
theorem ZoH{x:Bool×Bool}{l:Log}(h:Z4(x::l)):x.1=x.2∧Z4 l:=⟨h _ List.mem_cons_self,fun y hy=>h y(List.mem_cons_of_mem _ hy)⟩
end Go.Proofs.YtjlponbdflkbjaaGreatDoor.Na
namespace Go.Proofs.YtjlponbdflkbjaaGreatDoor.Na
open Go.KRun Go.Nt
set_option maxRecDepth 100000
theorem ZbM(L:List Int):(wU L).all still=true:=by
 unfold wU
 rw[List.all_eq_true]
 intro v hv
 obtain⟨x,_,rfl⟩:=List.mem_map.1 hv
 rfl
end Go.Proofs.YtjlponbdflkbjaaGreatDoor.Na
namespace Go.Nt
theorem ZcC:∀ (m:Nat)(V c:Int),dg m(V+4294967296^m*c)=dg m V
 | 0,_,_=>rfl
 | m+1,V,c=>by
  simp only[dg]
  rw[pw,Int.mul_assoc]
  generalize hZ:(4294967296:Int)^m*c=Z
  have e1:(V+4294967296*Z) % 4294967296=V % 4294967296:=by omega
  have e2:(V+4294967296*Z)/4294967296=V/4294967296+Z:=by omega
  rw[e1,e2,← hZ,ZcC m]
theorem Zef{k:Nat}(h:k≤32):(2:Int)^k*2^(32-k)=4294967296:=by
 rw[← Int.pow_add,show k+(32-k)=32 from by omega]
 rfl
theorem Ztk{k:Nat}{z y:Int}(z0:0≤z)(y0:0≤y)(y1:y<2^k)(hs:2^k*z+y<4294967296):(((BitVec.ofInt 32(2^k*z) ||| BitVec.ofInt 32 y).toNat:Nat):Int)=2^k*z+y:=by
 obtain⟨Z,rfl⟩:=Int.eq_ofNat_of_zero_le z0
 obtain⟨Y,rfl⟩:=Int.eq_ofNat_of_zero_le y0
 have ex:(2:Int)^k*(Z:Nat)=((2^k*Z:Nat):Int):=by simp
 have hY:Y<2^k:=by
  have:((Y:Nat):Int)<((2^k:Nat):Int):=by simpa using y1
  exact Int.ofNat_lt.1 this
 rw[ex] at hs ⊢
 have hX:2^k*Z+Y<4294967296:=by omega
 have e1:∀ m:Nat,m<4294967296→(BitVec.ofInt 32(m:Int)).toNat=m:=fun m hm=>by
  simp
  omega
 rw[BitVec.toNat_or,e1 _(by omega),e1 _(by omega),← Nat.two_pow_add_eq_or_of_lt hY]
 omega
theorem ZvD{x l q r:Int}(hq:1≤q)(hr:1≤r)(hqr:q*r=4294967296)(hx:0≤x∧x<4294967296)(hl:0≤l∧l<q):
  x*q=4294967296*(x/r)+q*(x % r)∧0≤q*(x % r)∧q*(x % r)+l<4294967296∧0≤x/r∧x/r<q:=by
 have h1:=Int.mul_ediv_add_emod x r
 have h2:=Int.emod_nonneg x(show r≠0 by omega)
 have h3:=Int.emod_lt_of_pos x(show 0<r by omega)
 have h4:0≤x/r:=Int.ediv_nonneg hx.1(by omega)
 generalize x/r=hi at*
 generalize x % r=lo at*
 have e1:x*q=4294967296*hi+q*lo:=by
  rw[← h1,← hqr,Int.add_mul,Int.mul_assoc q r hi,Int.mul_comm(r*hi) q,Int.mul_comm lo q]
 have e2:q*lo+q≤4294967296:=by
  have:=Int.mul_le_mul_of_nonneg_left(show lo+1≤r by omega)(show 0≤q by omega)
  rw[Int.mul_add,Int.mul_one,hqr] at this
  exact this
 refine⟨e1,Int.mul_nonneg(by omega) h2,by omega,h4,?_⟩
 rcases Int.lt_or_le hi q with h | h
 ·exact h
 ·exfalso
  have:=Int.mul_le_mul_of_nonneg_left h(show 0≤r by omega)
  rw[Int.mul_comm r q,hqr] at this
  omega
theorem Zm7{P a b q x l d e A:Int}(he:x*q+l=d+4294967296*e)(h:a+P*((x+4294967296*A)*q+l)=b):a+P*d+4294967296*P*(A*q+e)=b:=by
 rw[← h]
 have e1:(x+4294967296*A)*q+l=d+4294967296*(A*q+e):=by
  rw[Int.add_mul,Int.mul_assoc]
  omega
 rw[e1]
 generalize A*q+e=Z
 rw[Int.mul_add P d,← Int.mul_assoc P 4294967296 Z,Int.mul_comm P 4294967296]
 omega
end Go.Nt
namespace Go.Proofs.YtjlponbdflkbjaaGreatDoor.Na
open Go.KRun Go.Nt
set_option maxRecDepth 100000
def upU(x k:Int):Int:=IntKind.u32.wrap(x*2^min k.toNat 32)
def Zq2(x k l:Int):Int:=brr(upU x k) l
def Zq3(x k:Int):Int:=x.fdiv(2^min(IntKind.i64.wrap(32-k)).toNat 32)
theorem Z8U{x l:Int}{k:Nat}(hx:0≤x∧x<4294967296)(hl:0≤l∧l<2^k)(hk:k<32):
  (0≤Zq2 x k l∧Zq2 x k l<4294967296)∧(0≤Zq3 x k∧Zq3 x k<2^k)∧x*2^k+l=Zq2 x k l+4294967296*Zq3 x k:=by
 have q1:(1:Int)≤2^k:=by have:(0:Int)<2^k:=Int.pow_pos(by omega);omega
 have r1:(1:Int)≤2^(32-k):=by have:(0:Int)<2^(32-k):=Int.pow_pos(by omega);omega
 obtain⟨u1,u2,u3,u4,u5⟩:=ZvD q1 r1(Zef(by omega)) hx hl
 have eL:Zq3 x k=x/2^(32-k):=by
  unfold Zq3
  rw[Zw(by omega)(by omega),show min((32:Int)-(k:Nat)).toNat 32=32-k from by omega,Int.fdiv_eq_ediv_of_nonneg _(by omega)]
 have eU:upU x k=2^k*(x % 2^(32-k)):=by
  unfold upU
  rw[Int.toNat_natCast,show min k 32=k from by omega,ZgV,u1]
  omega
 have lo0:=Int.emod_nonneg x(show(2:Int)^(32-k)≠0 by omega)
 have eN:Zq2 x k l=2^k*(x % 2^(32-k))+l:=by
  unfold Zq2 brr
  rw[eU,Ztk lo0 hl.1 hl.2 u3,ZgV]
  omega
 rw[eL,eN]
 omega
def mR0(F:Func):List Code:=[Z5(Zt F),Z5(Z0(Zt F))]
def mL(F:Func):Code:=cIn(cIn(Z0(Z0(Zt F))))
theorem ZiD:Tryz.f119.body=some(za(mR0 Tryz.f119)(.block 0(.loop(mL Tryz.f119)))):=by kernel_rfl
def mF(w k l i x s n j:Value):List Value:=[w,k,undef,undef,l,i,x,s,n,j]
def hU(S la:List Value):Hp:=⟨2,[(S,tU),(la,tR)]⟩
theorem Zm8(b o n c:Nat)(k:Value)(h:Hp):Zg(evL(Zi Tryz.prog Zf Zo true) 100(mR0 Tryz.f119)([sl b o n c,k]++List.replicate 25 undef,h,[])⟨[],[],[]⟩) 10 17 none(mF(sl b o n c) k(uu 0) undef undef(sl b o n c)(i6' n)(i6' 0)) h []:=⟨by kernel_rfl,by kernel_rfl,by kernel_rfl⟩
theorem Zm9(w k l i x s:Value)(n:Nat)(j:Int)(h:Hp)(g:Nat→Value):Zg(evC(Zi Tryz.prog Zf Zo true) 100 false(mL Tryz.f119)(mF w k l i x s(i6' n)(i6' j)++tl 17 g,h,[cmp false])⟨[],[],[]⟩) 10 17(some(some 0))(mF w k l i x s(i6' n)(i6' j)) h [(decide(j<n),false)]:=⟨by kernel_rfl,by kernel_rfl,by kernel_rfl⟩
theorem Z0R(o n c:Nat)(k l j x:Int)(i0 x0:Value)(la S:List Value)(g:Nat→Value):Zg(evC(Zi Tryz.prog Zf Zo true) 100 false(mL Tryz.f119)(mF(sl 1 o n c)(i6' k)(uu l) i0 x0(sl 1 o n c)(i6' n)(i6' j)++tl 17 g,hU S la,[cmp true,at_,val(uu x),at_,at_])⟨[],[],[]⟩) 10 17 none
  (mF(sl 1 o n c)(i6' k)(uu(Zq3 x k))(i6' j)(uu x)(sl 1 o n c)(i6' n)(i6'(IntKind.i64.wrap(j+1))))(hU(S.set(o+j.toNat*1)(uu(Zq2 x k l))) la) [(decide(IntKind.i64.wrap(32-k)<0),false),(decide(o+j.toNat*1<S.length),true),inR j n,(decide(k<0),false),Zdu S o j x,inR j n,(decide(j<n),true)]:=⟨by kernel_rfl,by kernel_rfl,by kernel_rfl⟩
theorem ZmA(w k l i x s n j:Value)(h:Hp)(g:Nat→Value):ZZ Tryz.prog Tryz.f119(mF w k l i x s n j++tl 17 g) h=some(.tuple #[]):=by kernel_rfl
end Go.Proofs.YtjlponbdflkbjaaGreatDoor.Na
