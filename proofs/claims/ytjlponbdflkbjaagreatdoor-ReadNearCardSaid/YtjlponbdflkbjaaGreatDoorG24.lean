/-
  RdC, RdD, RdE, ConVB
-/
import Derived.Test.YtjlponbdflkbjaaGreatDoorG06
import Derived.Test.YtjlponbdflkbjaaGreatDoorG23
import Derived.Test.YtjlponbdflkbjaaGreatDoorG17
namespace Go.Proofs.YtjlponbdflkbjaaGreatDoor
open Go.KRun Go.Rd
set_option maxRecDepth 100000
def Zt8(F:Func):Code:=cIn(cIn(sP F 3))
def Zzl(F:Func):Code:=cIn(cIn(sP F 11))
theorem Zoe:Tryz.f20.body=some(za [sP Tryz.f20 0,sP Tryz.f20 1,sP Tryz.f20 2](.seq(.block 0(.loop(Zt8 Tryz.f20)))(sK Tryz.f20 4))):=by kernel_rfl
theorem Zbe:sK Tryz.f20 4=za [sP Tryz.f20 4,sP Tryz.f20 5,sP Tryz.f20 6,sP Tryz.f20 7,sP Tryz.f20 8,sP Tryz.f20 9,sP Tryz.f20 10](.seq(.block 2(.loop(Zzl Tryz.f20)))(sK Tryz.f20 12)):=by kernel_rfl
def ZcJ(b:Int)(D:List UInt8)(k P:Int):List Value×TypeId:=([.bool false,.int .i64 b,bR D,.int .i64 k,.int .i64 P],57)
def zB:List Value×TypeId:=([.bool false,.int .i64 0,bR [],.int .i64 0,.int .i64 0],57)
def ZcK(l:List UInt8)(b i q:Int):List Value:=[bR l,.int .i64 b,undef,undef,pO 0,.bool false,pO 1,.int .i64 i,.int .i64 q]
def ZgX(l:List UInt8)(b i q:Int)(mn:Bool):List Value:=[bR l,.int .i64 b,undef,undef,pO 0,.bool false,pO 1,.int .i64 i,.int .i64 q,.bool mn]
def scM(b:Int)(D:List UInt8)(k P:Int):Hp:=⟨2,[ZcJ b D k P,zB]⟩
theorem Z3c(l:List UInt8)(b:Int):Zg(evL(Zi Tryz.prog Zf ZI true) 100 [sP Tryz.f20 0,sP Tryz.f20 1,sP Tryz.f20 2]([bR l,.int .i64 b]++List.replicate 147 undef,⟨0,[]⟩,[])⟨[],[],[]⟩) 9 140 none(ZcK l b 0 0)(scM b [] 0 0) []:=⟨by kernel_rfl,by kernel_rfl,by kernel_rfl⟩
theorem ZAh(l:List UInt8)(b i q:Int)(D:List UInt8)(k P:Int)(g:Nat→Value):Zg(evC(Zi Tryz.prog Zf ZI true) 100 false(Zt8 Tryz.f20)(ZcK l b i q++tl 140 g,scM b D k P,[cmp false])⟨[],[],[]⟩) 9 140(some(some 0))(ZcK l b i q)(scM b D k P) [(decide(i<(l.length:Nat)),false)]:=⟨by kernel_rfl,by kernel_rfl,by kernel_rfl⟩
theorem Z8l(l:List UInt8)(b i q:Int)(D:List UInt8)(k P:Int)(g:Nat→Value):Zg(evC(Zi Tryz.prog Zf ZI true) 100 false(Zt8 Tryz.f20)(ZcK l b i q++tl 140 g,scM b D k P,[cmp true,cmp false,cmp false])⟨[],[],[]⟩) 9 140(some(some 0))(ZcK l b i q)(scM b D k P) [(decide(ZJ(byR l i) b≥0),false),(decide(b=10∨b=16),true),(decide(0≤i∧i.toNat<l.length),true),(byR l i==46,false),(decide(0≤i∧i.toNat<l.length),true),(decide(i<(l.length:Nat)),true)]:=⟨by kernel_rfl,by kernel_rfl,by kernel_rfl⟩
theorem Z8m(l:List UInt8)(b i q:Int)(D:List UInt8)(k P:Int)(g:Nat→Value):Zg(evC(Zi Tryz.prog Zf ZI true) 100 false(Zt8 Tryz.f20)(ZcK l b i q++tl 140 g,scM b D k P,[cmp true,cmp true,cmp false,cmp false])⟨[],[],[]⟩) 9 140(some(some 0))(ZcK l b i q)(scM b D k P) [(decide(ZJ(byR l i) b≥0),false),(decide(b=10∨b=16),true),(decide(0≤i∧i.toNat<l.length),true),(q==0,false),(byR l i==46,true),(decide(0≤i∧i.toNat<l.length),true),(decide(i<(l.length:Nat)),true)]:=⟨by kernel_rfl,by kernel_rfl,by kernel_rfl⟩
theorem ZAi(l:List UInt8)(b i q:Int)(D:List UInt8)(k P:Int)(g:Nat→Value):Zg(evC(Zi Tryz.prog Zf ZI true) 100 false(Zt8 Tryz.f20)(ZcK l b i q++tl 140 g,scM b D k P,[cmp true,cmp true,cmp true,cmp true])⟨[],[],[]⟩) 9 140 none(ZcK l b(IntKind.i64.wrap(i+1))(IntKind.i64.wrap(q+1)))(scM b D k P) [(byR l i==46,true),(decide(0≤i∧i.toNat<l.length),true),(q==0,true),(byR l i==46,true),(decide(0≤i∧i.toNat<l.length),true),(decide(i<(l.length:Nat)),true)]:=⟨by kernel_rfl,by kernel_rfl,by kernel_rfl⟩
theorem ZAj(l:List UInt8)(b i q:Int)(D:List UInt8)(k P:Int)(g:Nat→Value):Zg(evC(Zi Tryz.prog Zf ZI true) 100 false(Zt8 Tryz.f20)(ZcK l b i q++tl 140 g,scM b D k P,[cmp true,cmp false,cmp true,cmp false,sam true,sam true])⟨[],[],[]⟩) 9 140 none(ZcK l b(IntKind.i64.wrap(i+1)) q)(scM b(D++((l.drop i.toNat).take((IntKind.i64.wrap(i+1)).toNat-i.toNat)))(IntKind.i64.wrap(k+q)) P) [(decide(D.length+((l.drop i.toNat).take((IntKind.i64.wrap(i+1)).toNat-i.toNat)).length≤9223372036854775807),true),(decide(0≤i∧i≤(IntKind.i64.wrap(i+1))∧(IntKind.i64.wrap(i+1))≤((l.length:Nat):Int)),true),(byR l i==46,false),(decide(0≤i∧i.toNat<l.length),true),(decide(ZJ(byR l i) b≥0),true),(decide(b=10∨b=16),true),(decide(0≤i∧i.toNat<l.length),true),(byR l i==46,false),(decide(0≤i∧i.toNat<l.length),true),(decide(i<(l.length:Nat)),true)]:=⟨by kernel_rfl,by kernel_rfl,by kernel_rfl⟩
theorem ZAk(l:List UInt8)(b i q:Int)(D:List UInt8)(k P:Int)(g:Nat→Value):Zg(evC(Zi Tryz.prog Zf ZI true) 100 false(sK Tryz.f20 4)(ZcK l b i q++tl 140 g,scM b D k P,[sam true])⟨[],[],[]⟩) 6 143(some none) [bR l,.int .i64 b,undef,undef,pO 0,.bool false]⟨2,[ZcJ b D k P,ZcJ b D k P]⟩ [((⟨⟨D⟩⟩:ByteArray)==⟨⟨[]⟩⟩,true)]:=⟨by kernel_rfl,by kernel_rfl,by kernel_rfl⟩
theorem ZAl(l:List UInt8)(b i q:Int)(D:List UInt8)(k P:Int)(g:Nat→Value)(d:Bool):Zg(evC(Zi Tryz.prog Zf ZI true) 100 false(sK Tryz.f20 4)(ZcK l b i q++tl 140 g,scM b D k P,[sam false,cmp true,cmp d])⟨[],[],[]⟩) 6 143(some none) [bR l,.int .i64 b,undef,undef,pO 0,.bool d]⟨2,[ZcJ b D k P,ZcJ b D k P]⟩ [(b==10,d),(i==(l.length:Nat),true),((⟨⟨D⟩⟩:ByteArray)==⟨⟨[]⟩⟩,false)]:=⟨by kernel_rfl,by kernel_rfl,by kernel_rfl⟩
theorem Z8n(l:List UInt8)(b i q:Int)(D:List UInt8)(k P:Int)(g:Nat→Value):Zg(evC(Zi Tryz.prog Zf ZI true) 100 false(sK Tryz.f20 4)(ZcK l b i q++tl 140 g,scM b D k P,[sam false,cmp false,cmp true,cmp true])⟨[],[],[]⟩) 6 143(some none) [bR l,.int .i64 b,undef,undef,pO 0,.bool false]⟨2,[ZcJ b D k P,ZcJ b D k P]⟩ [(byR l i !=101,true),(decide(0≤i∧i.toNat<l.length),true),(b==10,true),(i==(l.length:Nat),false),((⟨⟨D⟩⟩:ByteArray)==⟨⟨[]⟩⟩,false)]:=⟨by kernel_rfl,by kernel_rfl,by kernel_rfl⟩
theorem Z8o(l:List UInt8)(b i q:Int)(D:List UInt8)(k P:Int)(g:Nat→Value):Zg(evC(Zi Tryz.prog Zf ZI true) 100 false(sK Tryz.f20 4)(ZcK l b i q++tl 140 g,scM b D k P,[sam false,cmp false,cmp false,cmp true,cmp true])⟨[],[],[]⟩) 6 143(some none) [bR l,.int .i64 b,undef,undef,pO 0,.bool false]⟨2,[ZcJ b D k P,ZcJ b D k P]⟩ [(byR l i !=112,true),(decide(0≤i∧i.toNat<l.length),true),(b==16,true),(b==10,false),(i==(l.length:Nat),false),((⟨⟨D⟩⟩:ByteArray)==⟨⟨[]⟩⟩,false)]:=⟨by kernel_rfl,by kernel_rfl,by kernel_rfl⟩
theorem Z8p(l:List UInt8)(b i q:Int)(D:List UInt8)(k P:Int)(g:Nat→Value):Zg(evC(Zi Tryz.prog Zf ZI true) 100 false(sK Tryz.f20 4)(ZcK l b i q++tl 140 g,scM b D k P,[sam false,cmp false,cmp true,cmp false,cmp false,cmp false,cmp false,cmp true])⟨[],[],[]⟩) 6 143(some none) [bR l,.int .i64 b,undef,undef,pO 0,.bool false]⟨2,[ZcJ b D k P,ZcJ b D k P]⟩ [((IntKind.i64.wrap(i+1))==(l.length:Nat),true),(decide((IntKind.i64.wrap(i+1))<(l.length:Nat)),false),(decide((IntKind.i64.wrap(i+1))<(l.length:Nat)),false),(b==16,false),(byR l i !=101,false),(decide(0≤i∧i.toNat<l.length),true),(b==10,true),(i==(l.length:Nat),false),((⟨⟨D⟩⟩:ByteArray)==⟨⟨[]⟩⟩,false)]:=⟨by kernel_rfl,by kernel_rfl,by kernel_rfl⟩
theorem Z3d(l:List UInt8)(b i q:Int)(D:List UInt8)(k P:Int)(g:Nat→Value):Zg(evC(Zi Tryz.prog Zf ZI true) 100 false(sK Tryz.f20 4)(ZcK l b i q++tl 140 g,scM b D k P,[sam false,cmp false,cmp true,cmp false,cmp false,cmp true,cmp true,cmp true,cmp true,cmp true])⟨[],[],[]⟩) 6 143(some none) [bR l,.int .i64 b,undef,undef,pO 0,.bool false]⟨2,[ZcJ b D k P,ZcJ b D k P]⟩ [((IntKind.i64.wrap((IntKind.i64.wrap(i+1))+1))==(l.length:Nat),true),(byR l(IntKind.i64.wrap(i+1))==45,true),(decide(0≤(IntKind.i64.wrap(i+1))∧(IntKind.i64.wrap(i+1)).toNat<l.length),true),(decide((IntKind.i64.wrap(i+1))<(l.length:Nat)),true),(byR l(IntKind.i64.wrap(i+1))==45,true),(decide(0≤(IntKind.i64.wrap(i+1))∧(IntKind.i64.wrap(i+1)).toNat<l.length),true),(decide((IntKind.i64.wrap(i+1))<(l.length:Nat)),true),(b==16,false),(byR l i !=101,false),(decide(0≤i∧i.toNat<l.length),true),(b==10,true),(i==(l.length:Nat),false),((⟨⟨D⟩⟩:ByteArray)==⟨⟨[]⟩⟩,false)]:=⟨by kernel_rfl,by kernel_rfl,by kernel_rfl⟩
theorem Z3e(l:List UInt8)(b i q:Int)(D:List UInt8)(k P:Int)(g:Nat→Value):Zg(evL(Zi Tryz.prog Zf ZI true) 100 [sP Tryz.f20 4,sP Tryz.f20 5,sP Tryz.f20 6,sP Tryz.f20 7,sP Tryz.f20 8,sP Tryz.f20 9,sP Tryz.f20 10](ZcK l b i q++tl 140 g,scM b D k P,[sam false,cmp false,cmp true,cmp false,cmp false,cmp true,cmp true,cmp true,cmp true,cmp false])⟨[],[],[]⟩) 10 139 none(ZgX l b(IntKind.i64.wrap((IntKind.i64.wrap(i+1))+1)) q true)(scM b D k P) [((IntKind.i64.wrap((IntKind.i64.wrap(i+1))+1))==(l.length:Nat),false),(byR l(IntKind.i64.wrap(i+1))==45,true),(decide(0≤(IntKind.i64.wrap(i+1))∧(IntKind.i64.wrap(i+1)).toNat<l.length),true),(decide((IntKind.i64.wrap(i+1))<(l.length:Nat)),true),(byR l(IntKind.i64.wrap(i+1))==45,true),(decide(0≤(IntKind.i64.wrap(i+1))∧(IntKind.i64.wrap(i+1)).toNat<l.length),true),(decide((IntKind.i64.wrap(i+1))<(l.length:Nat)),true),(b==16,false),(byR l i !=101,false),(decide(0≤i∧i.toNat<l.length),true),(b==10,true),(i==(l.length:Nat),false),((⟨⟨D⟩⟩:ByteArray)==⟨⟨[]⟩⟩,false)]:=⟨by kernel_rfl,by kernel_rfl,by kernel_rfl⟩
theorem Z3f(l:List UInt8)(b i q:Int)(D:List UInt8)(k P:Int)(g:Nat→Value):Zg(evC(Zi Tryz.prog Zf ZI true) 100 false(sK Tryz.f20 4)(ZcK l b i q++tl 140 g,scM b D k P,[sam false,cmp false,cmp true,cmp false,cmp false,cmp true,cmp false,cmp true,cmp false,cmp true,cmp true])⟨[],[],[]⟩) 6 143(some none) [bR l,.int .i64 b,undef,undef,pO 0,.bool false]⟨2,[ZcJ b D k P,ZcJ b D k P]⟩ [((IntKind.i64.wrap((IntKind.i64.wrap(i+1))+1))==(l.length:Nat),true),(byR l(IntKind.i64.wrap(i+1))==43,true),(decide(0≤(IntKind.i64.wrap(i+1))∧(IntKind.i64.wrap(i+1)).toNat<l.length),true),(byR l(IntKind.i64.wrap(i+1))==45,false),(decide(0≤(IntKind.i64.wrap(i+1))∧(IntKind.i64.wrap(i+1)).toNat<l.length),true),(decide((IntKind.i64.wrap(i+1))<(l.length:Nat)),true),(byR l(IntKind.i64.wrap(i+1))==45,false),(decide(0≤(IntKind.i64.wrap(i+1))∧(IntKind.i64.wrap(i+1)).toNat<l.length),true),(decide((IntKind.i64.wrap(i+1))<(l.length:Nat)),true),(b==16,false),(byR l i !=101,false),(decide(0≤i∧i.toNat<l.length),true),(b==10,true),(i==(l.length:Nat),false),((⟨⟨D⟩⟩:ByteArray)==⟨⟨[]⟩⟩,false)]:=⟨by kernel_rfl,by kernel_rfl,by kernel_rfl⟩
theorem Z3g(l:List UInt8)(b i q:Int)(D:List UInt8)(k P:Int)(g:Nat→Value):Zg(evL(Zi Tryz.prog Zf ZI true) 100 [sP Tryz.f20 4,sP Tryz.f20 5,sP Tryz.f20 6,sP Tryz.f20 7,sP Tryz.f20 8,sP Tryz.f20 9,sP Tryz.f20 10](ZcK l b i q++tl 140 g,scM b D k P,[sam false,cmp false,cmp true,cmp false,cmp false,cmp true,cmp false,cmp true,cmp false,cmp true,cmp false])⟨[],[],[]⟩) 10 139 none(ZgX l b(IntKind.i64.wrap((IntKind.i64.wrap(i+1))+1)) q false)(scM b D k P) [((IntKind.i64.wrap((IntKind.i64.wrap(i+1))+1))==(l.length:Nat),false),(byR l(IntKind.i64.wrap(i+1))==43,true),(decide(0≤(IntKind.i64.wrap(i+1))∧(IntKind.i64.wrap(i+1)).toNat<l.length),true),(byR l(IntKind.i64.wrap(i+1))==45,false),(decide(0≤(IntKind.i64.wrap(i+1))∧(IntKind.i64.wrap(i+1)).toNat<l.length),true),(decide((IntKind.i64.wrap(i+1))<(l.length:Nat)),true),(byR l(IntKind.i64.wrap(i+1))==45,false),(decide(0≤(IntKind.i64.wrap(i+1))∧(IntKind.i64.wrap(i+1)).toNat<l.length),true),(decide((IntKind.i64.wrap(i+1))<(l.length:Nat)),true),(b==16,false),(byR l i !=101,false),(decide(0≤i∧i.toNat<l.length),true),(b==10,true),(i==(l.length:Nat),false),((⟨⟨D⟩⟩:ByteArray)==⟨⟨[]⟩⟩,false)]:=⟨by kernel_rfl,by kernel_rfl,by kernel_rfl⟩
theorem Z3h(l:List UInt8)(b i q:Int)(D:List UInt8)(k P:Int)(g:Nat→Value):Zg(evL(Zi Tryz.prog Zf ZI true) 100 [sP Tryz.f20 4,sP Tryz.f20 5,sP Tryz.f20 6,sP Tryz.f20 7,sP Tryz.f20 8,sP Tryz.f20 9,sP Tryz.f20 10](ZcK l b i q++tl 140 g,scM b D k P,[sam false,cmp false,cmp true,cmp false,cmp false,cmp true,cmp false,cmp true,cmp false,cmp false,cmp false])⟨[],[],[]⟩) 10 139 none(ZgX l b(IntKind.i64.wrap(i+1)) q false)(scM b D k P) [((IntKind.i64.wrap(i+1))==(l.length:Nat),false),(byR l(IntKind.i64.wrap(i+1))==43,false),(decide(0≤(IntKind.i64.wrap(i+1))∧(IntKind.i64.wrap(i+1)).toNat<l.length),true),(byR l(IntKind.i64.wrap(i+1))==45,false),(decide(0≤(IntKind.i64.wrap(i+1))∧(IntKind.i64.wrap(i+1)).toNat<l.length),true),(decide((IntKind.i64.wrap(i+1))<(l.length:Nat)),true),(byR l(IntKind.i64.wrap(i+1))==45,false),(decide(0≤(IntKind.i64.wrap(i+1))∧(IntKind.i64.wrap(i+1)).toNat<l.length),true),(decide((IntKind.i64.wrap(i+1))<(l.length:Nat)),true),(b==16,false),(byR l i !=101,false),(decide(0≤i∧i.toNat<l.length),true),(b==10,true),(i==(l.length:Nat),false),((⟨⟨D⟩⟩:ByteArray)==⟨⟨[]⟩⟩,false)]:=⟨by kernel_rfl,by kernel_rfl,by kernel_rfl⟩
theorem Z8q(l:List UInt8)(b i q:Int)(D:List UInt8)(k P:Int)(g:Nat→Value):Zg(evC(Zi Tryz.prog Zf ZI true) 100 false(sK Tryz.f20 4)(ZcK l b i q++tl 140 g,scM b D k P,[sam false,cmp false,cmp false,cmp true,cmp false,cmp false,cmp false,cmp true])⟨[],[],[]⟩) 6 143(some none) [bR l,.int .i64 b,undef,undef,pO 0,.bool false]⟨2,[ZcJ b D k P,ZcJ b D k P]⟩ [((IntKind.i64.wrap(i+1))==(l.length:Nat),true),(decide((IntKind.i64.wrap(i+1))<(l.length:Nat)),false),(decide((IntKind.i64.wrap(i+1))<(l.length:Nat)),false),(byR l i !=112,false),(decide(0≤i∧i.toNat<l.length),true),(b==16,true),(b==10,false),(i==(l.length:Nat),false),((⟨⟨D⟩⟩:ByteArray)==⟨⟨[]⟩⟩,false)]:=⟨by kernel_rfl,by kernel_rfl,by kernel_rfl⟩
theorem Z3i(l:List UInt8)(b i q:Int)(D:List UInt8)(k P:Int)(g:Nat→Value):Zg(evC(Zi Tryz.prog Zf ZI true) 100 false(sK Tryz.f20 4)(ZcK l b i q++tl 140 g,scM b D k P,[sam false,cmp false,cmp false,cmp true,cmp false,cmp true,cmp true,cmp true,cmp true,cmp true])⟨[],[],[]⟩) 6 143(some none) [bR l,.int .i64 b,undef,undef,pO 0,.bool false]⟨2,[ZcJ b D k P,ZcJ b D k P]⟩ [((IntKind.i64.wrap((IntKind.i64.wrap(i+1))+1))==(l.length:Nat),true),(byR l(IntKind.i64.wrap(i+1))==45,true),(decide(0≤(IntKind.i64.wrap(i+1))∧(IntKind.i64.wrap(i+1)).toNat<l.length),true),(decide((IntKind.i64.wrap(i+1))<(l.length:Nat)),true),(byR l(IntKind.i64.wrap(i+1))==45,true),(decide(0≤(IntKind.i64.wrap(i+1))∧(IntKind.i64.wrap(i+1)).toNat<l.length),true),(decide((IntKind.i64.wrap(i+1))<(l.length:Nat)),true),(byR l i !=112,false),(decide(0≤i∧i.toNat<l.length),true),(b==16,true),(b==10,false),(i==(l.length:Nat),false),((⟨⟨D⟩⟩:ByteArray)==⟨⟨[]⟩⟩,false)]:=⟨by kernel_rfl,by kernel_rfl,by kernel_rfl⟩
theorem Z3j(l:List UInt8)(b i q:Int)(D:List UInt8)(k P:Int)(g:Nat→Value):Zg(evL(Zi Tryz.prog Zf ZI true) 100 [sP Tryz.f20 4,sP Tryz.f20 5,sP Tryz.f20 6,sP Tryz.f20 7,sP Tryz.f20 8,sP Tryz.f20 9,sP Tryz.f20 10](ZcK l b i q++tl 140 g,scM b D k P,[sam false,cmp false,cmp false,cmp true,cmp false,cmp true,cmp true,cmp true,cmp true,cmp false])⟨[],[],[]⟩) 10 139 none(ZgX l b(IntKind.i64.wrap((IntKind.i64.wrap(i+1))+1)) q true)(scM b D k P) [((IntKind.i64.wrap((IntKind.i64.wrap(i+1))+1))==(l.length:Nat),false),(byR l(IntKind.i64.wrap(i+1))==45,true),(decide(0≤(IntKind.i64.wrap(i+1))∧(IntKind.i64.wrap(i+1)).toNat<l.length),true),(decide((IntKind.i64.wrap(i+1))<(l.length:Nat)),true),(byR l(IntKind.i64.wrap(i+1))==45,true),(decide(0≤(IntKind.i64.wrap(i+1))∧(IntKind.i64.wrap(i+1)).toNat<l.length),true),(decide((IntKind.i64.wrap(i+1))<(l.length:Nat)),true),(byR l i !=112,false),(decide(0≤i∧i.toNat<l.length),true),(b==16,true),(b==10,false),(i==(l.length:Nat),false),((⟨⟨D⟩⟩:ByteArray)==⟨⟨[]⟩⟩,false)]:=⟨by kernel_rfl,by kernel_rfl,by kernel_rfl⟩
theorem Z3k(l:List UInt8)(b i q:Int)(D:List UInt8)(k P:Int)(g:Nat→Value):Zg(evC(Zi Tryz.prog Zf ZI true) 100 false(sK Tryz.f20 4)(ZcK l b i q++tl 140 g,scM b D k P,[sam false,cmp false,cmp false,cmp true,cmp false,cmp true,cmp false,cmp true,cmp false,cmp true,cmp true])⟨[],[],[]⟩) 6 143(some none) [bR l,.int .i64 b,undef,undef,pO 0,.bool false]⟨2,[ZcJ b D k P,ZcJ b D k P]⟩ [((IntKind.i64.wrap((IntKind.i64.wrap(i+1))+1))==(l.length:Nat),true),(byR l(IntKind.i64.wrap(i+1))==43,true),(decide(0≤(IntKind.i64.wrap(i+1))∧(IntKind.i64.wrap(i+1)).toNat<l.length),true),(byR l(IntKind.i64.wrap(i+1))==45,false),(decide(0≤(IntKind.i64.wrap(i+1))∧(IntKind.i64.wrap(i+1)).toNat<l.length),true),(decide((IntKind.i64.wrap(i+1))<(l.length:Nat)),true),(byR l(IntKind.i64.wrap(i+1))==45,false),(decide(0≤(IntKind.i64.wrap(i+1))∧(IntKind.i64.wrap(i+1)).toNat<l.length),true),(decide((IntKind.i64.wrap(i+1))<(l.length:Nat)),true),(byR l i !=112,false),(decide(0≤i∧i.toNat<l.length),true),(b==16,true),(b==10,false),(i==(l.length:Nat),false),((⟨⟨D⟩⟩:ByteArray)==⟨⟨[]⟩⟩,false)]:=⟨by kernel_rfl,by kernel_rfl,by kernel_rfl⟩
theorem Z3l(l:List UInt8)(b i q:Int)(D:List UInt8)(k P:Int)(g:Nat→Value):Zg(evL(Zi Tryz.prog Zf ZI true) 100 [sP Tryz.f20 4,sP Tryz.f20 5,sP Tryz.f20 6,sP Tryz.f20 7,sP Tryz.f20 8,sP Tryz.f20 9,sP Tryz.f20 10](ZcK l b i q++tl 140 g,scM b D k P,[sam false,cmp false,cmp false,cmp true,cmp false,cmp true,cmp false,cmp true,cmp false,cmp true,cmp false])⟨[],[],[]⟩) 10 139 none(ZgX l b(IntKind.i64.wrap((IntKind.i64.wrap(i+1))+1)) q false)(scM b D k P) [((IntKind.i64.wrap((IntKind.i64.wrap(i+1))+1))==(l.length:Nat),false),(byR l(IntKind.i64.wrap(i+1))==43,true),(decide(0≤(IntKind.i64.wrap(i+1))∧(IntKind.i64.wrap(i+1)).toNat<l.length),true),(byR l(IntKind.i64.wrap(i+1))==45,false),(decide(0≤(IntKind.i64.wrap(i+1))∧(IntKind.i64.wrap(i+1)).toNat<l.length),true),(decide((IntKind.i64.wrap(i+1))<(l.length:Nat)),true),(byR l(IntKind.i64.wrap(i+1))==45,false),(decide(0≤(IntKind.i64.wrap(i+1))∧(IntKind.i64.wrap(i+1)).toNat<l.length),true),(decide((IntKind.i64.wrap(i+1))<(l.length:Nat)),true),(byR l i !=112,false),(decide(0≤i∧i.toNat<l.length),true),(b==16,true),(b==10,false),(i==(l.length:Nat),false),((⟨⟨D⟩⟩:ByteArray)==⟨⟨[]⟩⟩,false)]:=⟨by kernel_rfl,by kernel_rfl,by kernel_rfl⟩
theorem Z3m(l:List UInt8)(b i q:Int)(D:List UInt8)(k P:Int)(g:Nat→Value):Zg(evL(Zi Tryz.prog Zf ZI true) 100 [sP Tryz.f20 4,sP Tryz.f20 5,sP Tryz.f20 6,sP Tryz.f20 7,sP Tryz.f20 8,sP Tryz.f20 9,sP Tryz.f20 10](ZcK l b i q++tl 140 g,scM b D k P,[sam false,cmp false,cmp false,cmp true,cmp false,cmp true,cmp false,cmp true,cmp false,cmp false,cmp false])⟨[],[],[]⟩) 10 139 none(ZgX l b(IntKind.i64.wrap(i+1)) q false)(scM b D k P) [((IntKind.i64.wrap(i+1))==(l.length:Nat),false),(byR l(IntKind.i64.wrap(i+1))==43,false),(decide(0≤(IntKind.i64.wrap(i+1))∧(IntKind.i64.wrap(i+1)).toNat<l.length),true),(byR l(IntKind.i64.wrap(i+1))==45,false),(decide(0≤(IntKind.i64.wrap(i+1))∧(IntKind.i64.wrap(i+1)).toNat<l.length),true),(decide((IntKind.i64.wrap(i+1))<(l.length:Nat)),true),(byR l(IntKind.i64.wrap(i+1))==45,false),(decide(0≤(IntKind.i64.wrap(i+1))∧(IntKind.i64.wrap(i+1)).toNat<l.length),true),(decide((IntKind.i64.wrap(i+1))<(l.length:Nat)),true),(byR l i !=112,false),(decide(0≤i∧i.toNat<l.length),true),(b==16,true),(b==10,false),(i==(l.length:Nat),false),((⟨⟨D⟩⟩:ByteArray)==⟨⟨[]⟩⟩,false)]:=⟨by kernel_rfl,by kernel_rfl,by kernel_rfl⟩
theorem ZAm(l:List UInt8)(b i q:Int)(mn:Bool)(D:List UInt8)(k P:Int)(g:Nat→Value):Zg(evC(Zi Tryz.prog Zf ZI true) 100 false(Zzl Tryz.f20)(ZgX l b i q mn++tl 139 g,scM b D k P,[cmp false])⟨[],[],[]⟩) 10 139(some(some 2))(ZgX l b i q mn)(scM b D k P) [(decide(i<(l.length:Nat)),false)]:=⟨by kernel_rfl,by kernel_rfl,by kernel_rfl⟩
theorem ZAn(l:List UInt8)(b i q:Int)(mn:Bool)(D:List UInt8)(k P:Int)(g:Nat→Value):Zg(evC(Zi Tryz.prog Zf ZI true) 100 false(Zzl Tryz.f20)(ZgX l b i q mn++tl 139 g,scM b D k P,[cmp true,cmp true])⟨[],[],[]⟩) 6 143(some none) [bR l,.int .i64 b,undef,undef,pO 0,.bool false]⟨2,[ZcJ b D k P,ZcJ b D k P]⟩ [(decide(ZJ(byR l i) 10<0),true),(true,true),(decide(0≤i∧i.toNat<l.length),true),(decide(i<(l.length:Nat)),true)]:=⟨by kernel_rfl,by kernel_rfl,by kernel_rfl⟩
theorem ZAo(l:List UInt8)(b i q:Int)(mn:Bool)(D:List UInt8)(k P:Int)(g:Nat→Value):Zg(evC(Zi Tryz.prog Zf ZI true) 100 false(Zzl Tryz.f20)(ZgX l b i q mn++tl 139 g,scM b D k P,[cmp true,cmp false])⟨[],[],[]⟩) 10 139 none(ZgX l b(IntKind.i64.wrap(i+1)) q mn)(scM b D k(if 2000000<(IntKind.i64.wrap(IntKind.i64.wrap(10*P)+ZJ(byR l i) 10)) then 2000000 else(IntKind.i64.wrap(IntKind.i64.wrap(10*P)+ZJ(byR l i) 10)))) [(true,true),(true,true),(decide(0≤i∧i.toNat<l.length),true),(decide(ZJ(byR l i) 10<0),false),(true,true),(decide(0≤i∧i.toNat<l.length),true),(decide(i<(l.length:Nat)),true)]:=⟨by kernel_rfl,by kernel_rfl,by kernel_rfl⟩
theorem ZAp(l:List UInt8)(b i q:Int)(D:List UInt8)(k P:Int)(g:Nat→Value):Zg(evC(Zi Tryz.prog Zf ZI true) 100 false(sK Tryz.f20 12)(ZgX l b i q true++tl 139 g,scM b D k P,[])⟨[],[],[]⟩) 6 143(some none) [bR l,.int .i64 b,undef,undef,pO 0,.bool true]⟨2,[ZcJ b D k(IntKind.i64.wrap(0-P)),ZcJ b D k(IntKind.i64.wrap(0-P))]⟩ []:=⟨by kernel_rfl,by kernel_rfl,by kernel_rfl⟩
theorem ZAq(l:List UInt8)(b i q:Int)(D:List UInt8)(k P:Int)(g:Nat→Value):Zg(evC(Zi Tryz.prog Zf ZI true) 100 false(sK Tryz.f20 12)(ZgX l b i q false++tl 139 g,scM b D k P,[])⟨[],[],[]⟩) 6 143(some none) [bR l,.int .i64 b,undef,undef,pO 0,.bool true]⟨2,[ZcJ b D k P,ZcJ b D k P]⟩ []:=⟨by kernel_rfl,by kernel_rfl,by kernel_rfl⟩
end Go.Proofs.YtjlponbdflkbjaaGreatDoor
namespace Go.Proofs.YtjlponbdflkbjaaGreatDoor
open Go.KRun Go.Nt Go.Rd
set_option maxRecDepth 100000
def q1R(p:Bool):Int:=if p=true then 1 else 0
def scS(b:Int)(l:List UInt8)(i:Nat)(y:Lf):Prop:=∃ (p:Bool)(D:List UInt8)(k:Nat)(g:Nat→Value),i≤l.length∧D.length≤i∧k≤i∧sc1 b false l=(D++(sc1 b p(l.drop i)).1,k+(sc1 b p(l.drop i)).2.1,(sc1 b p(l.drop i)).2.2)∧y.1=ZcK l b i(q1R p)++tl 140 g∧y.2.1=scM b D k 0
def scO(b:Int)(l:List UInt8)(y:Lf):Prop:=∃ (i:Nat)(p:Bool)(D:List UInt8)(k:Nat)(g:Nat→Value),i≤l.length∧D.length≤i∧k≤i∧sc1 b false l=(D,k,l.drop i)∧y.1=ZcK l b i(q1R p)++tl 140 g∧y.2.1=scM b D k 0
theorem ZrU{b:Int}{l:List UInt8}(hb:b=10∨b=16)(h2:l.length≤100000)(r:Nat)(y:Lf)(h:∃ i,r=l.length-i∧scS b l i y):
  Runs(Zi Tryz.prog Zf ZI true)(Zt8 Tryz.f20) y fun e z=>match e with | none=>∃ r',r'<r∧∃ i,r'=l.length-i∧scS b l i z | some none=>False | some(some id')=>id'=0∧scO b l z:=by
 have hT:=Zk Zcc
 obtain⟨i,hr,p,D,k,g,hi,hD,hk,hS,ht,hh⟩:=h
 obtain⟨t,h',sc⟩:=y
 simp only at ht hh
 subst ht hh
 by_cases hc:i<l.length
 ·have lA:decide(((i:Nat):Int)<(l.length:Nat))=true:=decide_eq_true(by omega)
  have lI:decide((0:Int)≤(i:Nat)∧((i:Nat):Int).toNat<l.length)=true:=decide_eq_true⟨by omega,by rw[Int.toNat_natCast];exact hc⟩
  have lB:decide(b=10∨b=16)=true:=decide_eq_true hb
  have ew:=wN(n:=i)(by omega)
  have ed:=Zbo hc
  have eC:lq8(l.getD i 0)=byR l(i:Nat):=by unfold lq8 byR;rw[Int.toNat_natCast]
  by_cases h46:byR l(i:Nat)=46
  ·have c46:(byR l(i:Nat)==46)=true:=ZC h46
   cases p with
   | false=>
    have hg:=ZAi l b(i:Nat)(q1R false) D k 0 g
    rw[ew] at hg
    refine(Zb(s0:=sc) hT hg(Za c46(Za lI(Za(by decide)(Za c46(Za lI(Z3 lA))))))).mono fun e z he=> ?_
    obtain⟨rfl,⟨g',z1⟩,z2⟩:=he
    have es:sc1 b false(l.drop i)=sc1 b true(l.drop(i+1)):=by
     rw[ed]
     unfold sc1
     rw[eC,if_pos⟨h46,rfl⟩]
     exact sc1.eq_def b true _ ▸ rfl
    rw[es] at hS
    exact⟨l.length-(i+1),by omega,i+1,rfl,true,D,k,g',by omega,by omega,by omega,hS,z1,z2⟩
   | true=>
    have hn:ZJ(byR l(i:Nat)) b= -1:=by
     rw[h46]
     unfold ZJ
     rw[if_neg(by omega),if_neg(by omega)]
    refine(Zb(s0:=sc) hT(Z8m l b(i:Nat)(q1R true) D k 0 g)(Za(decide_eq_false(by rw[hn];decide))(Za lB(Za lI(Za(by decide)(Za c46(Za lI(Z3 lA)))))))).mono fun e z he=> ?_
    obtain⟨rfl,⟨g',z1⟩,z2⟩:=he
    have es:sc1 b true(l.drop i)=([],0,l.drop i):=by
     rw[ed,sc1,eC,if_neg(fun h=>by cases h.2),if_neg(by rw[hn];decide)]
    rw[es] at hS
    simp only[List.append_nil,Nat.add_zero] at hS
    exact⟨rfl,i,true,D,k,g',hi,hD,hk,hS,z1,z2⟩
  ·have c46:(byR l(i:Nat)==46)=false:=Zl h46
   by_cases hd:0≤ZJ(byR l(i:Nat)) b
   ·have hg:=ZAj l b(i:Nat)(q1R p) D k 0 g
    rw[ew] at hg
    have ep:(l.drop((i:Nat):Int).toNat).take(((i+1:Nat):Int).toNat-((i:Nat):Int).toNat)=[l.getD i 0]:=by
     rw[Int.toNat_natCast,Int.toNat_natCast,show i+1-i=1 by omega,ed]
     rfl
    rw[ep] at hg
    have ek:IntKind.i64.wrap(((k:Nat):Int)+q1R p)=((k+(if p=true then 1 else 0):Nat):Int):=by
     unfold q1R
     rw[Zw(by split<;>omega)(by split<;>omega)]
     split<;>omega
    rw[ek] at hg
    refine(Zb(s0:=sc) hT hg(Za(decide_eq_true(by rw[List.length_singleton];omega))(Za(decide_eq_true⟨by omega,by omega,by omega⟩)(Za c46(Za lI(Za(decide_eq_true hd)(Za lB(Za lI(Za c46(Za lI(Z3 lA))))))))))).mono fun e z he=> ?_
    obtain⟨rfl,⟨g',z1⟩,z2⟩:=he
    have es:sc1 b p(l.drop i)=(l.getD i 0::(sc1 b p(l.drop(i+1))).1,(if p=true then 1 else 0)+(sc1 b p(l.drop(i+1))).2.1,(sc1 b p(l.drop(i+1))).2.2):=by
     rw[ed,sc1,eC,if_neg(fun h=>h46 h.1),if_pos hd]
    rw[es] at hS
    refine⟨l.length-(i+1),by omega,i+1,rfl,p,D++[l.getD i 0],k+(if p=true then 1 else 0),g',by omega,by rw[List.length_append,List.length_singleton];omega,by split<;>omega,?_,z1,z2⟩
    rw[hS]
    simp only[List.append_assoc,List.singleton_append,Nat.add_assoc]
   ·have es:sc1 b p(l.drop i)=([],0,l.drop i):=by
     rw[ed,sc1,eC,if_neg(fun h=>h46 h.1),if_neg hd]
    refine(Zb(s0:=sc) hT(Z8l l b(i:Nat)(q1R p) D k 0 g)(Za(decide_eq_false(by omega))(Za lB(Za lI(Za c46(Za lI(Z3 lA))))))).mono fun e z he=> ?_
    obtain⟨rfl,⟨g',z1⟩,z2⟩:=he
    rw[es] at hS
    simp only[List.append_nil,Nat.add_zero] at hS
    exact⟨rfl,i,p,D,k,g',hi,hD,hk,hS,z1,z2⟩
 ·have es:l.drop i=[]:=List.drop_eq_nil_of_le(by omega)
  refine(Zb(s0:=sc) hT(ZAh l b(i:Nat)(q1R p) D k 0 g)(Z3(decide_eq_false(by omega)))).mono fun e z he=> ?_
  obtain⟨rfl,⟨g',z1⟩,z2⟩:=he
  refine⟨rfl,i,p,D,k,g',hi,hD,hk,?_,z1,z2⟩
  rw[hS,es,sc1]
  simp only[List.append_nil,Nat.add_zero]
def scW(b:Int)(D:List UInt8)(k:Nat)(P:Int)(v:Bool):Value:= .tuple #[.agg #[.bool false,.int .i64 b,bR D,.int .i64 k,.int .i64 P],.bool v]
def scZ(b:Int)(D:List UInt8)(k:Nat)(P:Int)(v:Bool)(e:Ex)(z:Lf):Prop:=(e=none∨e=some none)∧ZZ Tryz.prog Tryz.f20 z.1 z.2.1=some(scW b D k P v)
theorem Zbf{l:List UInt8}{b:Int}{D:List UInt8}{k:Nat}{P:Int}{v:Bool}{e:Ex}{z:Lf}(h:e=some none∧(∃ g,z.1=[bR l,.int .i64 b,undef,undef,pO 0,.bool v]++tl 143 g)∧z.2.1=⟨2,[ZcJ b D k P,ZcJ b D k P]⟩):scZ b D k P v e z:=by
 obtain⟨rfl,⟨g,z1⟩,z2⟩:=h
 exact⟨.inr rfl,by rw[z1,z2];rfl⟩
def pwJ(b q:Int)(mn:Bool)(l:List UInt8)(D:List UInt8)(k:Nat)(X:Nat×Bool)(i:Nat)(y:Lf):Prop:=∃ (a:Nat)(g:Nat→Value),i≤l.length∧a≤2000000∧X=pw1 a(l.drop i)∧y.1=ZgX l b i q mn++tl 139 g∧y.2.1=scM b D k a
def pwO(b q:Int)(mn:Bool)(l:List UInt8)(D:List UInt8)(k:Nat)(X:Nat×Bool)(y:Lf):Prop:=∃ (a i:Nat)(g:Nat→Value),a≤2000000∧X=(a,true)∧y.1=ZgX l b i q mn++tl 139 g∧y.2.1=scM b D k a
def pwB(b:Int)(D:List UInt8)(k:Nat)(X:Nat×Bool)(y:Lf):Prop:=X.2=false∧scZ b D k(X.1:Nat) false(some none) y
theorem Zof{b q:Int}{mn:Bool}{l D:List UInt8}{k:Nat}{X:Nat×Bool}(h2:l.length≤100000)(r:Nat)(y:Lf)(h:∃ i,r=l.length-i∧pwJ b q mn l D k X i y):
  Runs(Zi Tryz.prog Zf ZI true)(Zzl Tryz.f20) y fun e z=>match e with | none=>∃ r',r'<r∧∃ i,r'=l.length-i∧pwJ b q mn l D k X i z | some none=>pwB b D k X z | some(some id')=>id'=2∧pwO b q mn l D k X z:=by
 have hT:=Zk Zcc
 obtain⟨i,hr,a,g,hi,ha,hX,ht,hh⟩:=h
 obtain⟨t,h',sc⟩:=y
 simp only at ht hh
 subst ht hh
 by_cases hc:i<l.length
 ·have lA:decide(((i:Nat):Int)<(l.length:Nat))=true:=decide_eq_true(by omega)
  have lI:decide((0:Int)≤(i:Nat)∧((i:Nat):Int).toNat<l.length)=true:=decide_eq_true⟨by omega,by rw[Int.toNat_natCast];exact hc⟩
  have ew:=wN(n:=i)(by omega)
  have ed:=Zbo hc
  have eC:lq8(l.getD i 0)=byR l(i:Nat):=by unfold lq8 byR;rw[Int.toNat_natCast]
  have bD:=Zf4(byR l(i:Nat)) 10
  by_cases hd:0≤ZJ(byR l(i:Nat)) 10
  ·have hg:=ZAo l b(i:Nat) q mn D k a g
   have ev:IntKind.i64.wrap(IntKind.i64.wrap(10*((a:Nat):Int))+ZJ(byR l(i:Nat)) 10)=10*((a:Nat):Int)+ZJ(byR l(i:Nat)) 10:=by
    rw[Zw(n:=10*((a:Nat):Int))(by omega)(by omega),Zw(by omega)(by omega)]
   have em:(if 2000000<10*((a:Nat):Int)+ZJ(byR l(i:Nat)) 10 then 2000000 else 10*((a:Nat):Int)+ZJ(byR l(i:Nat)) 10)=((min(10*a+(ZJ(byR l(i:Nat)) 10).toNat) 2000000:Nat):Int):=by split<;>omega
   rw[ev,em,ew] at hg
   refine(Zb(s0:=sc) hT hg(Za rfl(Za rfl(Za lI(Za(decide_eq_false(by omega))(Za rfl(Za lI(Z3 lA)))))))).mono fun e z he=> ?_
   obtain⟨rfl,⟨g',z1⟩,z2⟩:=he
   refine⟨l.length-(i+1),by omega,i+1,rfl,_,g',by omega,by omega,?_,z1,z2⟩
   rw[hX,ed,pw1,eC,if_pos hd]
  ·refine(Zb(s0:=sc) hT(ZAn l b(i:Nat) q mn D k a g)(Za(decide_eq_true(by omega))(Za rfl(Za lI(Z3 lA))))).mono fun e z he=> ?_
   have hx:X=(a,false):=by rw[hX,ed,pw1,eC,if_neg hd]
   have hz:=Zbf he
   obtain⟨rfl,_⟩:=he
   rw[hx]
   exact⟨rfl,hz⟩
 ·have es:l.drop i=[]:=List.drop_eq_nil_of_le(by omega)
  refine(Zb(s0:=sc) hT(ZAm l b(i:Nat) q mn D k a g)(Z3(decide_eq_false(by omega)))).mono fun e z he=> ?_
  obtain⟨rfl,⟨g',z1⟩,z2⟩:=he
  exact⟨rfl,a,i,g',ha,by rw[hX,es];rfl,z1,z2⟩
theorem Zff{b q:Int}{mn:Bool}{l D:List UInt8}{k j:Nat}(h2:l.length≤100000)(hj:j≤l.length)(g:Nat→Value)(s:List Dec):
  Runs(Zi Tryz.prog Zf ZI true)(.seq(.block 2(.loop(Zzl Tryz.f20)))(sK Tryz.f20 12))(ZgX l b j q mn++tl 139 g,scM b D k 0,s)(scZ b D k(if(pw1 0(l.drop j)).2=false then((pw1 0(l.drop j)).1:Nat) else if mn=true then -((pw1 0(l.drop j)).1:Nat) else((pw1 0(l.drop j)).1:Nat))(pw1 0(l.drop j)).2):=by
 have hT:=Zk Zcc
 obtain⟨X,hX⟩:∃ X,X=pw1 0(l.drop j):=⟨_,rfl⟩
 rw[← hX]
 refine Runs.seq(P1:=fun e y=>match e with | none=>pwO b q mn l D k X y | some none=>pwB b D k X y | some(some _)=>False)(Runs.forLoop(R:=pwB b D k X)(P:=pwO b q mn l D k X)(fun r y=>∃ i,r=l.length-i∧pwJ b q mn l D k X i y)(Zof h2)(n:=l.length-j)⟨j,rfl,0,g,hj,by omega,hX,rfl,rfl⟩) ?_ ?_
 ·rintro⟨t,hh,sc⟩⟨a,i,g',ha,hx,e1,e2⟩
  simp only at e1 e2
  subst e1 e2
  rw[hx]
  dsimp only
  cases mn with
  | true=>
   have hg:=ZAp l b(i:Nat) q D k a g'
   rw[Zw(n:=0-((a:Nat):Int))(by omega)(by omega),show(0:Int)-((a:Nat):Int)= -((a:Nat):Int) by omega] at hg
   refine(Zb(s0:=sc) hT hg ZaZ).mono fun e z he=> ?_
   have hz:=Zbf he
   rw[if_neg(by decide),if_pos rfl]
   exact hz
  | false=>
   refine(Zb(s0:=sc) hT(ZAq l b(i:Nat) q D k a g') ZaZ).mono fun e z he=> ?_
   have hz:=Zbf he
   rw[if_neg(by decide),if_neg(by decide)]
   exact hz
 ·rintro e⟨t,hh,sc⟩ hc
  match e,hc with
  | none,hc=>
   obtain⟨h3,h4⟩:=hc
   rw[if_pos h3,h3]
   exact h4
theorem Zfg{b:Int}{D:List UInt8}{k:Nat}{X:Nat×Bool}{mn:Bool}{e:Ex}{z:Lf}(h:scZ b D k(if X.2=false then(X.1:Nat) else if mn=true then -(X.1:Nat) else(X.1:Nat)) X.2 e z):scZ b D k(if X.2=false then((X.1:Nat),false) else(if mn=true then -(X.1:Nat) else(X.1:Nat),true):Int×Bool).1(if X.2=false then((X.1:Nat),false) else(if mn=true then -(X.1:Nat) else(X.1:Nat),true):Int×Bool).2 e z:=by
 cases h2:X.2 with
 | true=>
  rw[h2,if_neg(by decide)] at h
  rw[if_neg(by decide)]
  exact h
 | false=>
  rw[h2,if_pos rfl] at h
  rw[if_pos rfl]
  exact h
theorem Zog{b:Int}{l:List UInt8}(hb:b=10∨b=16)(h2:l.length≤100000):Runs(Zi Tryz.prog Zf ZI true)(za [sP Tryz.f20 0,sP Tryz.f20 1,sP Tryz.f20 2](.seq(.block 0(.loop(Zt8 Tryz.f20)))(sK Tryz.f20 4)))([bR l,.int .i64 b]++List.replicate 147 undef,⟨0,[]⟩,[])(scZ b(sc1 b false l).1(sc1 b false l).2.1(scA b l).1(scA b l).2):=by
 have hT:=Zk Zcc
 refine Zx hT(Z3c l b) ZaZ fun g=> ?_
 refine Runs.seq(P1:=fun e y=>match e with | none=>scO b l y | some none=>False | some(some _)=>False)(Runs.forLoop(R:=fun _=>False)(P:=scO b l)(fun r y=>∃ i,r=l.length-i∧scS b l i y)(ZrU hb h2)(n:=l.length)⟨0,by omega,false,[],0,g,by omega,by exact Nat.le_refl _,by omega,by simp,rfl,rfl⟩) ?_(fun e y he=>by match e,he with | none,he=>exact he.elim | some _,he=>exact he.elim)
 rintro⟨t,hh,sc⟩⟨i,p,D,k,g',hi,hD,hk,hS,e1,e2⟩
 simp only at e1 e2
 subst e1 e2
 have eA:scA b l=if D=[] then(0,false) else scE b(l.drop i):=by unfold scA;rw[hS]
 rw[eA,hS]
 dsimp only
 by_cases hN:D=[]
 ·rw[if_pos hN]
  exact(Zb(s0:=sc) hT(ZAk l b(i:Nat)(q1R p) D k 0 g')(Z3(by rw[Zc2];exact decide_eq_true hN))).mono fun e z he=>Zbf he
 have eN:((⟨⟨D⟩⟩:ByteArray)==⟨⟨[]⟩⟩)=false:=by rw[Zc2];exact decide_eq_false hN
 rw[if_neg hN]
 by_cases hc:¬ i<l.length
 ·have es:l.drop i=[]:=List.drop_eq_nil_of_le(by omega)
  rw[es]
  unfold scE
  dsimp only
  exact(Zb(s0:=sc) hT(ZAl l b(i:Nat)(q1R p) D k 0 g'(decide(b=10)))(Za(by by_cases h:b=10<;>simp [h])(Za(ZC(by omega))(Z3 eN)))).mono fun e z he=>Zbf he
 have hc:i<l.length:=by omega
 have lQ:(((i:Nat):Int)==(l.length:Nat))=false:=Zl(by omega)
 have lI:decide((0:Int)≤(i:Nat)∧((i:Nat):Int).toNat<l.length)=true:=decide_eq_true⟨by omega,by rw[Int.toNat_natCast];exact hc⟩
 have ed:=Zbo hc
 have eC:lq8(l.getD i 0)=byR l(i:Nat):=by unfold lq8 byR;rw[Int.toNat_natCast]
 rw[ed]
 unfold scE
 dsimp only
 rw[eC]
 have ew:=wN(n:=i)(by omega)
 rcases hb with hb | hb
 ·skip
  by_cases hm:byR l(i:Nat)≠101
  ·rw[if_pos(.inl⟨hb,hm⟩)]
   exact(Zb(s0:=sc) hT(Z8n l b(i:Nat)(q1R p) D k 0 g')(Za(ZsK hm)(Za lI(Za(ZC hb)(Za lQ(Z3 eN)))))).mono fun e z he=>Zbf he
  have hm:byR l(i:Nat)=101:=Decidable.of_not_not hm
  rw[if_neg(by omega)]
  have lg:=(Za(Zl(show b≠16 by omega))(Za(ZsL hm)(Za lI(Za(ZC hb)(Za lQ(Z3 eN))))))
  by_cases hc1:¬ i+1<l.length
  ·have es:l.drop(i+1)=[]:=List.drop_eq_nil_of_le(by omega)
   rw[es,if_pos(show(sgT []).2=[] from rfl)]
   have hg:=Z8p l b(i:Nat)(q1R p) D k 0 g'
   rw[ew] at hg
   exact(Zb(s0:=sc) hT hg(Za(ZC(by omega))(Za(decide_eq_false(by omega))(Za(decide_eq_false(by omega)) lg)))).mono fun e z he=>Zbf he
  have hc1:i+1<l.length:=by omega
  have lA1:decide(((i+1:Nat):Int)<(l.length:Nat))=true:=decide_eq_true(by omega)
  have lI1:decide((0:Int)≤((i+1:Nat):Int)∧((i+1:Nat):Int).toNat<l.length)=true:=decide_eq_true⟨by omega,by rw[Int.toNat_natCast];exact hc1⟩
  have ed1:=Zbo hc1
  have eC1:lq8(l.getD(i+1) 0)=byR l((i+1:Nat):Int):=by unfold lq8 byR;rw[Int.toNat_natCast]
  have ew1:=wN(n:=i+1)(by omega)
  rw[Zbe]
  by_cases h45:byR l((i+1:Nat):Int)=45
  ·have esg:sgT(l.drop(i+1))=(true,l.drop(i+1+1)):=by rw[ed1];unfold sgT;dsimp only;rw[eC1,if_pos h45]
   rw[esg]
   dsimp only
   have lm:=Za(ZC h45)(Za lI1(Za lA1(Za(ZC h45)(Za lI1(Za lA1 lg)))))
   by_cases hc2:l.drop(i+1+1)=[]
   ·rw[if_pos hc2,← Zbe]
    have hl2:l.length≤i+1+1:=List.drop_eq_nil_iff.1 hc2
    have hg:=Z3d l b(i:Nat)(q1R p) D k 0 g'
    rw[ew,ew1] at hg
    exact(Zb(s0:=sc) hT hg(Za(ZC(by omega)) lm)).mono fun e z he=>Zbf he
   ·rw[if_neg hc2]
    have hl2:¬ l.length≤i+1+1:=fun h=>hc2(List.drop_eq_nil_iff.2 h)
    have hg:=Z3e l b(i:Nat)(q1R p) D k 0 g'
    rw[ew,ew1] at hg
    refine Zx hT hg(Za(Zl(by omega)) lm) fun g2=> ?_
    refine(Zff(b:=b)(q:=q1R p)(mn:=true)(l:=l)(D:=D)(k:=k)(j:=i+1+1) h2(by omega) g2 _).mono fun e z hz=> ?_
    exact Zfg hz
  by_cases h43:byR l((i+1:Nat):Int)=43
  ·have esg:sgT(l.drop(i+1))=(false,l.drop(i+1+1)):=by rw[ed1];unfold sgT;dsimp only;rw[eC1,if_neg h45,if_pos h43]
   rw[esg]
   dsimp only
   have lm:=Za(ZC h43)(Za lI1(Za(Zl h45)(Za lI1(Za lA1(Za(Zl h45)(Za lI1(Za lA1 lg)))))))
   by_cases hc2:l.drop(i+1+1)=[]
   ·rw[if_pos hc2,← Zbe]
    have hl2:l.length≤i+1+1:=List.drop_eq_nil_iff.1 hc2
    have hg:=Z3f l b(i:Nat)(q1R p) D k 0 g'
    rw[ew,ew1] at hg
    exact(Zb(s0:=sc) hT hg(Za(ZC(by omega)) lm)).mono fun e z he=>Zbf he
   ·rw[if_neg hc2]
    have hl2:¬ l.length≤i+1+1:=fun h=>hc2(List.drop_eq_nil_iff.2 h)
    have hg:=Z3g l b(i:Nat)(q1R p) D k 0 g'
    rw[ew,ew1] at hg
    refine Zx hT hg(Za(Zl(by omega)) lm) fun g2=> ?_
    refine(Zff(b:=b)(q:=q1R p)(mn:=false)(l:=l)(D:=D)(k:=k)(j:=i+1+1) h2(by omega) g2 _).mono fun e z hz=> ?_
    exact Zfg hz
  ·have esg:sgT(l.drop(i+1))=(false,l.drop(i+1)):=by rw[ed1];unfold sgT;dsimp only;rw[eC1,if_neg h45,if_neg h43]
   rw[esg]
   dsimp only
   have lm:=Za(Zl h43)(Za lI1(Za(Zl h45)(Za lI1(Za lA1(Za(Zl h45)(Za lI1(Za lA1 lg)))))))
   rw[if_neg(fun h=>by have:=List.drop_eq_nil_iff.1 h;omega)]
   have hg:=Z3h l b(i:Nat)(q1R p) D k 0 g'
   rw[ew] at hg
   refine Zx hT hg(Za(Zl(by omega)) lm) fun g2=> ?_
   refine(Zff(b:=b)(q:=q1R p)(mn:=false)(l:=l)(D:=D)(k:=k)(j:=i+1) h2(by omega) g2 _).mono fun e z hz=> ?_
   exact Zfg hz
 ·skip
  by_cases hm:byR l(i:Nat)≠112
  ·rw[if_pos(.inr⟨hb,hm⟩)]
   exact(Zb(s0:=sc) hT(Z8o l b(i:Nat)(q1R p) D k 0 g')(Za(ZsK hm)(Za lI(Za(ZC hb)(Za(Zl(by omega))(Za lQ(Z3 eN))))))).mono fun e z he=>Zbf he
  have hm:byR l(i:Nat)=112:=Decidable.of_not_not hm
  rw[if_neg(by omega)]
  have lg:=(Za(ZsL hm)(Za lI(Za(ZC hb)(Za(Zl(show b≠10 by omega))(Za lQ(Z3 eN))))))
  by_cases hc1:¬ i+1<l.length
  ·have es:l.drop(i+1)=[]:=List.drop_eq_nil_of_le(by omega)
   rw[es,if_pos(show(sgT []).2=[] from rfl)]
   have hg:=Z8q l b(i:Nat)(q1R p) D k 0 g'
   rw[ew] at hg
   exact(Zb(s0:=sc) hT hg(Za(ZC(by omega))(Za(decide_eq_false(by omega))(Za(decide_eq_false(by omega)) lg)))).mono fun e z he=>Zbf he
  have hc1:i+1<l.length:=by omega
  have lA1:decide(((i+1:Nat):Int)<(l.length:Nat))=true:=decide_eq_true(by omega)
  have lI1:decide((0:Int)≤((i+1:Nat):Int)∧((i+1:Nat):Int).toNat<l.length)=true:=decide_eq_true⟨by omega,by rw[Int.toNat_natCast];exact hc1⟩
  have ed1:=Zbo hc1
  have eC1:lq8(l.getD(i+1) 0)=byR l((i+1:Nat):Int):=by unfold lq8 byR;rw[Int.toNat_natCast]
  have ew1:=wN(n:=i+1)(by omega)
  rw[Zbe]
  by_cases h45:byR l((i+1:Nat):Int)=45
  ·have esg:sgT(l.drop(i+1))=(true,l.drop(i+1+1)):=by rw[ed1];unfold sgT;dsimp only;rw[eC1,if_pos h45]
   rw[esg]
   dsimp only
   have lm:=Za(ZC h45)(Za lI1(Za lA1(Za(ZC h45)(Za lI1(Za lA1 lg)))))
   by_cases hc2:l.drop(i+1+1)=[]
   ·rw[if_pos hc2,← Zbe]
    have hl2:l.length≤i+1+1:=List.drop_eq_nil_iff.1 hc2
    have hg:=Z3i l b(i:Nat)(q1R p) D k 0 g'
    rw[ew,ew1] at hg
    exact(Zb(s0:=sc) hT hg(Za(ZC(by omega)) lm)).mono fun e z he=>Zbf he
   ·rw[if_neg hc2]
    have hl2:¬ l.length≤i+1+1:=fun h=>hc2(List.drop_eq_nil_iff.2 h)
    have hg:=Z3j l b(i:Nat)(q1R p) D k 0 g'
    rw[ew,ew1] at hg
    refine Zx hT hg(Za(Zl(by omega)) lm) fun g2=> ?_
    refine(Zff(b:=b)(q:=q1R p)(mn:=true)(l:=l)(D:=D)(k:=k)(j:=i+1+1) h2(by omega) g2 _).mono fun e z hz=> ?_
    exact Zfg hz
  by_cases h43:byR l((i+1:Nat):Int)=43
  ·have esg:sgT(l.drop(i+1))=(false,l.drop(i+1+1)):=by rw[ed1];unfold sgT;dsimp only;rw[eC1,if_neg h45,if_pos h43]
   rw[esg]
   dsimp only
   have lm:=Za(ZC h43)(Za lI1(Za(Zl h45)(Za lI1(Za lA1(Za(Zl h45)(Za lI1(Za lA1 lg)))))))
   by_cases hc2:l.drop(i+1+1)=[]
   ·rw[if_pos hc2,← Zbe]
    have hl2:l.length≤i+1+1:=List.drop_eq_nil_iff.1 hc2
    have hg:=Z3k l b(i:Nat)(q1R p) D k 0 g'
    rw[ew,ew1] at hg
    exact(Zb(s0:=sc) hT hg(Za(ZC(by omega)) lm)).mono fun e z he=>Zbf he
   ·rw[if_neg hc2]
    have hl2:¬ l.length≤i+1+1:=fun h=>hc2(List.drop_eq_nil_iff.2 h)
    have hg:=Z3l l b(i:Nat)(q1R p) D k 0 g'
    rw[ew,ew1] at hg
    refine Zx hT hg(Za(Zl(by omega)) lm) fun g2=> ?_
    refine(Zff(b:=b)(q:=q1R p)(mn:=false)(l:=l)(D:=D)(k:=k)(j:=i+1+1) h2(by omega) g2 _).mono fun e z hz=> ?_
    exact Zfg hz
  ·have esg:sgT(l.drop(i+1))=(false,l.drop(i+1)):=by rw[ed1];unfold sgT;dsimp only;rw[eC1,if_neg h45,if_neg h43]
   rw[esg]
   dsimp only
   have lm:=Za(Zl h43)(Za lI1(Za(Zl h45)(Za lI1(Za lA1(Za(Zl h45)(Za lI1(Za lA1 lg)))))))
   rw[if_neg(fun h=>by have:=List.drop_eq_nil_iff.1 h;omega)]
   have hg:=Z3m l b(i:Nat)(q1R p) D k 0 g'
   rw[ew] at hg
   refine Zx hT hg(Za(Zl(by omega)) lm) fun g2=> ?_
   refine(Zff(b:=b)(q:=q1R p)(mn:=false)(l:=l)(D:=D)(k:=k)(j:=i+1) h2(by omega) g2 _).mono fun e z hz=> ?_
   exact Zfg hz
theorem Zko(l:List UInt8)(b:Int)(hb:b=10∨b=16)(h2:l.length≤100000)(w:World):Calls Tryz.prog 20 #[bR l,.int .i64 b] w fun r w'=>r= .returned(scW b(sc1 b false l).1(sc1 b false l).2.1(scA b l).1(scA b l).2)∧Zad w w':=
 ZP(T:=(Zi Tryz.prog Zf ZI true)) Tryz.func20 Zoe(by rfl)(by rfl)(Zog hb h2) w
def Z8r:Ans:=fun vals s=>
 match vals,s with
 | [.string⟨⟨l⟩⟩,.int .i64 b],.inr(.inr(.inr(.inl d)))::s'=>some(scW b(sc1 b false l).1(sc1 b false l).2.1(scA b l).1 d,s',[((scA b l).2,d),(decide((b=10∨b=16)∧l.length≤100000),true)])
 | _,_=>none
theorem ZxR:ZT 20 Z8r:=by
 intro vals s v s' lg h hl w
 unfold Z8r at h
 split at h
 ·rename_i l b d s2
  cases h
  rw[ZcQ,ZcQ] at hl
  obtain⟨l1,l2,_⟩:=hl
  obtain⟨q1,q2⟩:=of_decide_eq_true l2
  have l1:(scA b l).2=d:=l1
  rw[← l1]
  exact Zko l b q1 q2 w
 ·cases h
end Go.Proofs.YtjlponbdflkbjaaGreatDoor
namespace Go.Proofs.YtjlponbdflkbjaaGreatDoor
open Go.KRun Go.Nt
set_option maxRecDepth 100000
def f4(n:Int):List Int:=[IntKind.u32.wrap(n.tmod 65536),IntKind.u32.wrap((IntKind.u64.wrap(n.tdiv 65536)).tmod 65536),IntKind.u32.wrap((IntKind.u64.wrap(n.tdiv 4294967296)).tmod 65536),IntKind.u32.wrap(IntKind.u64.wrap(n.tdiv 281474976710656))]
theorem ZrV:Tryz.f48.body=some(Zt Tryz.f48):=by kernel_rfl
theorem Z3n(n:Int):Zg(evC(Zs Tryz.prog Zf Zo hcV) 100 false(Zt Tryz.f48)([.int .u64 n]++List.replicate 18 undef,⟨0,[]⟩,[cmp true,cmp true,cmp true])⟨[],[],[]⟩) 3 16(some none) [.int .u64 n,undef,sl 0 0(Zm(Zy(wU(f4 n)) 0 4))(Zm(Zy(wU(f4 n)) 0 4))]⟨1,[(wU(f4 n),tU)]⟩ [(Zbr tU(wU(f4 n)) 0 4 4,true),(decide((65536:Int)=0),false),(decide((65536:Int)=0),false),(decide((65536:Int)=0),false)]:=⟨by kernel_rfl,by kernel_rfl,by kernel_rfl⟩
theorem Zfh{n:Int}(h0:0≤n)(h1:n<18446744073709551616):IntKind.u64.wrap n=n:=by simp [IntKind.wrap,IntKind.bits,IntKind.signed];omega
theorem Z3o{n:Int}(h0:0≤n)(h1:n<18446744073709551616):f4 n=[n % 65536,n/65536 % 65536,n/4294967296 % 65536,n/281474976710656]:=by
 unfold f4
 rw[Int.tmod_eq_emod_of_nonneg h0,Int.tdiv_eq_ediv_of_nonneg h0,Int.tdiv_eq_ediv_of_nonneg h0,Int.tdiv_eq_ediv_of_nonneg h0,Zfh(n:=n/65536)(by omega)(by omega),Zfh(n:=n/4294967296)(by omega)(by omega),Zfh(n:=n/281474976710656)(by omega)(by omega),Int.tmod_eq_emod_of_nonneg(by omega),Int.tmod_eq_emod_of_nonneg(by omega),zm(n:=n % 65536)(by omega)(by omega),zm(n:=n/65536 % 65536)(by omega)(by omega),zm(n:=n/4294967296 % 65536)(by omega)(by omega),zm(by omega)(by omega)]
theorem Z8s{n:Int}(h0:0≤n)(h1:n<18446744073709551616):∀ x∈f4 n,Dg 65536 x:=by
 rw[Z3o h0 h1]
 intro x hx
 simp only[List.mem_cons,List.not_mem_nil,or_false] at hx
 rcases hx with rfl | rfl | rfl | rfl<;>exact⟨by omega,by omega⟩
theorem Z3p{n:Int}(h0:0≤n)(h1:n<18446744073709551616):vb 65536(f4 n)=n.toNat:=by
 rw[Z3o h0 h1]
 simp only[vb]
 omega
def Z4P:Zaf:=fun vals h s=>
 match vals with
 | [.int .u64 n]=>Zdh n.toNat h s [(decide(0≤n∧n<18446744073709551616),true)]
 | _=>none
theorem Zoh:Z9 48 Z4P:=by
 intro vals h s v h' s' lg hg hl m B w E hv
 unfold Z4P at hg
 split at hg
 ·rename_i n
  unfold Zdh at hg
  cases hg
  have q:=of_decide_eq_true(hl _(List.mem_singleton.2 rfl))
  have hd:=Z8s q.1 q.2
  have hv4:=Z3p q.1 q.2
  have hl4:(f4 n).length=4:=rfl
  have ec:Zy(wU(f4 n)) 0 4=f4 n:=by
   have:=ZaQ(f4 n)
   rw[hl4] at this
   exact this
  have et:Zm(f4 n)=(d16 n.toNat).length:=by
   rw[Zat(by omega) hd,hv4]
   rfl
  have hrow:Zbr tU(wU(f4 n)) 0 4 4=true:=by
   have:=Zaq(L:=f4 n)(fun x hx=>⟨(hd x hx).1,by have:=(hd x hx).2;omega⟩)(by rw[hl4];omega)(c:=4)(by rw[hl4];rfl)
   rw[hl4] at this
   exact this
  have hr:Runs(Zs Tryz.prog Zf Zo hcV)(Zt Tryz.f48)([.int .u64 n]++List.replicate 18 undef,⟨0,[]⟩,[]) fun e z=>(e=none∨e=some none)∧ZZ Tryz.prog Tryz.f48 z.1 z.2.1=some(sl 0 0(d16 n.toNat).length(d16 n.toNat).length)∧∃ r,z.2.1.blk? 0=some(wU(d16 n.toNat)++r,tU):=by
   refine(Zb(Zh Zd Zv)(Z3n n)(Zj hrow(Zj rfl(Zj rfl(Zu rfl))))).mono fun e z he=> ?_
   obtain⟨rfl,⟨g,e1⟩,e2⟩:=he
   refine⟨.inr rfl,?_,?_⟩
   ·rw[e1,e2,ec,et]
    rfl
   ·rw[e2]
    refine⟨wU((f4 n).drop(Zm(f4 n))),?_⟩
    have e3:wU(d16 n.toNat)++wU((f4 n).drop(Zm(f4 n)))=wU(f4 n):=by
     unfold d16
     rw[← hv4,← zl(by omega) _ hd,← ZY,List.take_append_drop]
    rw[e3]
    rfl
  have:=ZG(T:=Zs Tryz.prog Zf Zo hcV) Tryz.func48 ZrV(h0:=⟨0,[]⟩)⟨rfl,fun b x hx=>by have:b<0:=Hp.blk_lt hx;omega⟩(vals:=[.int .u64 n])(fun v hv=>by rw[List.mem_singleton.1 hv];rfl)(k:=0)(cs:=wU(d16 n.toNat))(ty:=tU)(Zbb _)(by kernel_rfl) hr.w(by rfl) E(s:=fun i=>i)(fun i x hx _=>by have:i<0:=Hp.blk_lt hx;omega)
  exact this
 ·cases hg
def Zzm(F:Func):List Code:=[Z5(Zt F),Z5(Z0(Zt F))]
def wR2(F:Func):Code:=Z5(Z5(Z0(Z0(Zt F))))
def wLp(F:Func):Code:=cIn(cIn(Z0(Z5(Z0(Z0(Zt F))))))
def wEn(F:Func):Code:=Z0(Z0(Z0(Zt F)))
def m4(n:Nat):Int:=IntKind.i64.wrap((if(4:Int)<(n:Int) then 4 else(n:Int))-1)
theorem Zoi:Tryz.f50.body=some(za(Zzm Tryz.f50)(.seq(.seq(wR2 Tryz.f50)(.block 0(.loop(wLp Tryz.f50))))(wEn Tryz.f50))):=by kernel_rfl
theorem ZrW(a:Value)(h:Hp):Zg(evL(Zs Tryz.prog Zf Zo hcV) 100(Zzm Tryz.f50)([a]++List.replicate 21 undef,h,[])⟨[],[],[]⟩) 4 18 none [a,undef,.int .u64 0,.int .u64 0] h []:=⟨by kernel_rfl,by kernel_rfl,by kernel_rfl⟩
theorem ZxS(p:Option Addr)(n c:Nat)(h:Hp)(g:Nat→Value):Zg(evC(Zs Tryz.prog Zf Zo hcV) 100 false(wR2 Tryz.f50)([.slice p n c,undef,.int .u64 0,.int .u64 0]++tl 18 g,h,[])⟨[],[],[]⟩) 5 17 none [.slice p n c,undef,.int .u64 0,.int .u64 0,.int .i64(m4 n)] h []:=⟨by kernel_rfl,by kernel_rfl,by kernel_rfl⟩
def lw(y x:Int):Int:=IntKind.u64.wrap(IntKind.u64.wrap(65536*y)+IntKind.u64.wrap x)
theorem ZxT(o n c:Nat)(x y k:Int)(l:List Value)(g:Nat→Value):Zg(evC(Zs Tryz.prog Zf Zo hcV) 100 false(wLp Tryz.f50)([sl 0 o n c,undef,.int .u64 0,.int .u64 y,.int .i64 k]++tl 17 g,⟨1,[(l,tR)]⟩,[cmp true,at_,val(.int .u32 x)])⟨[],[],[]⟩) 5 17 none [sl 0 o n c,undef,.int .u64 0,.int .u64(lw y x),.int .i64(IntKind.i64.wrap(k-1))]⟨1,[(l,tR)]⟩ [(Z6(l[o+k.toNat*1]?)(.int .u32 x),true),(decide(0≤k∧k<n),true),(decide(k≥0),true)]:=⟨by kernel_rfl,by kernel_rfl,by kernel_rfl⟩
theorem ZrX(a:Value)(y k:Int)(h:Hp)(g:Nat→Value):Zg(evC(Zs Tryz.prog Zf Zo hcV) 100 false(wLp Tryz.f50)([a,undef,.int .u64 0,.int .u64 y,.int .i64 k]++tl 17 g,h,[cmp false])⟨[],[],[]⟩) 5 17(some(some 0)) [a,undef,.int .u64 0,.int .u64 y,.int .i64 k] h [(decide(k≥0),false)]:=⟨by kernel_rfl,by kernel_rfl,by kernel_rfl⟩
theorem ZrY(a:Value)(y k:Int)(h:Hp)(g:Nat→Value):Zg(evC(Zs Tryz.prog Zf Zo hcV) 100 false(wEn Tryz.f50)([a,undef,.int .u64 0,.int .u64 y,.int .i64 k]++tl 17 g,h,[])⟨[],[],[]⟩) 3 19(some none) [a,undef,.int .u64 y] h []:=⟨by kernel_rfl,by kernel_rfl,by kernel_rfl⟩
def hiV(L:List Int)(k:Nat):Nat:=vb 65536((L.take 4).drop k)
theorem ZrZ{L:List Int}{k:Nat}(hk:k<(L.take 4).length):hiV L k=dgN L k+65536*hiV L(k+1):=by
 unfold hiV dgN
 rw[List.drop_eq_getElem_cons hk]
 simp only[vb]
 congr 2
 rw[List.getElem_take]
 rw[List.length_take] at hk
 simp [List.getD,List.getElem?_eq_getElem(show k<L.length by omega)]
theorem Zt9{L:List Int}(hd:∀ x∈L,Dg 65536 x)(k:Nat):hiV L k<65536^(4-k):=by
 have h:=Zbm(b:=65536)(by omega)((L.take 4).drop k)(fun x hx=>hd x(List.mem_of_mem_take(List.mem_of_mem_drop hx)))
 have hl:((L.take 4).drop k).length≤4-k:=by simp;omega
 exact Nat.lt_of_lt_of_le h(Nat.pow_le_pow_right(by omega) hl)
theorem Zsa{L:List Int}(hd:∀ x∈L,Dg 65536 x):hiV L 0=vb 65536 L % 18446744073709551616:=by
 have e:L=L.take 4++L.drop 4:=(List.take_append_drop 4 L).symm
 have h4:=Zt9 hd 0
 unfold hiV at*
 rw[List.drop_zero] at*
 have ev:vb 65536 L=vb 65536(L.take 4)+65536^(L.take 4).length*vb 65536(L.drop 4):=by
  conv=>lhs;rw[e]
  exact Zav _ _ _
 rw[ev]
 have e4:(65536:Nat)^(4-0)=18446744073709551616:=rfl
 by_cases hl:L.length≤4
 ·rw[List.drop_of_length_le hl]
  simp only[vb,Nat.mul_zero,Nat.add_zero]
  omega
 ·have:(L.take 4).length=4:=by simp;omega
  have e5:(65536:Nat)^4=18446744073709551616:=rfl
  rw[this,e5]
  omega
theorem Zoj{l:List Value}{o c:Nat}{L:List Int}(hR:Row l o L)(hd:∀ x∈L,Dg 65536 x)(hn:L.length<1073741824):
  Runs(Zs Tryz.prog Zf Zo hcV)(za(Zzm Tryz.f50)(.seq(.seq(wR2 Tryz.f50)(.block 0(.loop(wLp Tryz.f50))))(wEn Tryz.f50)))([sl 0 o L.length c]++List.replicate 21 undef,⟨1,[(l,tR)]⟩,[]) fun e z=>(e=none∨e=some none)∧ZZ Tryz.prog Tryz.f50 z.1 z.2.1=some(.int .u64((vb 65536 L % 18446744073709551616:Nat):Int)):=by
 have hm:m4 L.length=(((L.take 4).length:Nat):Int)-1:=by
  unfold m4
  rw[List.length_take]
  split
  ·rw[Zw(by omega)(by omega)];omega
  ·rw[Zw(by omega)(by omega)];omega
 have hz:hiV L(L.take 4).length=0:=by unfold hiV;rw[List.drop_of_length_le(Nat.le_refl _)];rfl
 refine Zx(Zh Zd Zv)(ZrW _ _)(fun x hx=>by cases hx) fun g=> ?_
 refine Runs.seq(P1:=fun e Y=>match e with | none=>(∃ g,Y.1=[sl 0 o L.length c,undef,.int .u64 0,.int .u64(hiV L 0:Nat),.int .i64(-1)]++tl 17 g)∧Y.2.1=⟨1,[(l,tR)]⟩ | some none=>False | some(some _)=>False)(Runs.seq(P1:=fun e Y=>e=none∧(∃ g,Y.1=[sl 0 o L.length c,undef,.int .u64 0,.int .u64 0,.int .i64(m4 L.length)]++tl 17 g)∧Y.2.1=⟨1,[(l,tR)]⟩)(Zb(Zh Zd Zv)(ZxS _ L.length c _ g)(fun x hx=>by cases hx)) ?_(fun e y he=>by cases he.1)) ?_(fun e Y he=>by match e,he with | none,he=>exact he.elim | some id,he=>exact he.elim)
 ·rintro⟨t,h',s⟩⟨_,⟨g',ht⟩,hh⟩
  simp only at ht hh
  subst ht hh
  refine Runs.script(s:=[])(Runs.forLoop(P:=fun Y=>(∃ g,Y.1=[sl 0 o L.length c,undef,.int .u64 0,.int .u64(hiV L 0:Nat),.int .i64(-1)]++tl 17 g)∧Y.2.1=⟨1,[(l,tR)]⟩)(R:=fun _=>False)
   (fun k Y=>k≤(L.take 4).length∧(∃ g,Y.1=[sl 0 o L.length c,undef,.int .u64 0,.int .u64(hiV L k:Nat),.int .i64((k:Int)-1)]++tl 17 g)∧Y.2.1=⟨1,[(l,tR)]⟩) ?_(n:=(L.take 4).length)⟨Nat.le_refl _,⟨g',by rw[hz,hm];rfl⟩,rfl⟩)
  rintro k⟨t,h',s⟩⟨hk,⟨g,ht⟩,hh⟩
  simp only at ht hh
  subst ht hh
  have hl4:(L.take 4).length≤L.length:=by simp;omega
  have hl5:(L.take 4).length≤4:=by simp;omega
  cases k with
  | zero=>
   refine(Zb(Zh Zd Zv)(ZrX _ _ _ _ g)(Zu(decide_eq_false(by omega)))).mono fun e z hz=> ?_
   obtain⟨rfl,⟨g',z1⟩,z2⟩:=hz
   exact⟨rfl,⟨g',z1⟩,z2⟩
  | succ k=>
   have hd1:=z3 hd k
   have hlt:=Zt9 hd(k+1)
   have hs:=ZrZ(L:=L)(k:=k)(by omega)
   have ek:((k+1:Nat):Int)-1=(k:Int):=by omega
   have hp:hiV L(k+1)<281474976710656:=by
    have:65536^(4-(k+1))≤65536^3:=Nat.pow_le_pow_right(by omega)(by omega)
    have e3:(65536:Nat)^3=281474976710656:=rfl
    omega
   rw[ek]
   refine(Zb(Zh Zd Zv)(ZxT o L.length c(L.getD k 0) _ k l g)(Zj(by rw[Int.toNat_natCast,Nat.mul_one,hR.cell(by omega)];simp [Z6])(Zj(decide_eq_true(by omega))(Zu(show decide((k:Int)≥0)=true from decide_eq_true(by omega)))))).mono fun e z hz=> ?_
   obtain⟨rfl,⟨g',z1⟩,z2⟩:=hz
   have e1:lw(hiV L(k+1):Nat)(L.getD k 0)=((hiV L k:Nat):Int):=by
    unfold lw
    rw[← hd1.2,Zfh(n:=65536*((hiV L(k+1):Nat):Int))(by omega)(by omega),Zfh(n:=((dgN L k:Nat):Int))(by omega)(by omega),Zfh(by omega)(by omega)]
    omega
   have e2:IntKind.i64.wrap((k:Int)-1)=(k:Int)-1:=Zw(by omega)(by omega)
   exact⟨k,by omega,by omega,⟨g',by rw[z1,e1,e2]⟩,z2⟩
 ·rintro⟨t,h',s⟩⟨⟨g',ht⟩,hh⟩
  simp only at ht hh
  subst ht hh
  refine(Zb(Zh Zd Zv)(ZrY _ _ _ _ g')(fun x hx=>by cases hx)).mono fun e z hz=> ?_
  obtain⟨rfl,⟨g2,z1⟩,z2⟩:=hz
  refine⟨.inr rfl,?_⟩
  rw[z1,z2,Zsa hd]
  rfl
theorem Zkp:Tryz.f50.body=some(Zt Tryz.f50):=by kernel_rfl
theorem Zok(p:Option Addr)(c:Nat)(h:Hp):Zg(evC(Zs Tryz.prog Zf Zo hcV) 100 false(Zt Tryz.f50)([.slice p 0 c]++List.replicate 21 undef,h,[cmp false])⟨[],[],[]⟩) 3 19(some none) [.slice p 0 c,undef,.int .u64 0] h [(decide(m4 0≥0),false)]:=⟨by kernel_rfl,by kernel_rfl,by kernel_rfl⟩
theorem ZxU:decide(m4 0≥0)=false:=by decide
def ZxV(h:Hp)(p:Option Addr)(n c:Nat):Bool:=zG h p n c && dgB(Zr h p n) && Nat.blt n 1073741824
def ZxW:Zaf:=fun vals h s=>
 match vals with
 | [.slice p n c]=>some(.int .u64((vO h p n % 18446744073709551616:Nat):Int),h,s,[(ZxV h p n c,true)])
 | _=>none
theorem Zsb:Z9 50 ZxW:=by
 intro vals h s v h' s' lg hg hl m B w E hv
 unfold ZxW at hg
 split at hg
 ·rename_i p n c
  cases hg
  have q:=hl _(List.mem_singleton.2 rfl)
  simp only[ZxV,Bool.and_eq_true] at q
  obtain⟨⟨q1,q2⟩,q3⟩:=q
  have q2:=Zby q2
  have q3:=Zp.1 q3
  have hlen:=zP q1
  by_cases hn:n=0
  ·subst hn
   have e0:Zr h p 0=[]:=List.length_eq_zero_iff.1 hlen
   have ev:vO h p 0=0:=by unfold vO;rw[e0];rfl
   obtain⟨x,p',a,NA,eA,fA⟩:=ZbN 0 q1
   have hr:Runs(Zs Tryz.prog Zf Zo hcV)(Zt Tryz.f50)([.slice p' 0 c]++List.replicate 21 undef,⟨1,[x]⟩,[]) fun e z=>(e=none∨e=some none)∧ZZ Tryz.prog Tryz.f50 z.1 z.2.1=some(.int .u64((vO h p 0 % 18446744073709551616:Nat):Int)):=by
    refine(Zb(Zh Zd Zv)(Zok p' c _)(Zu ZxU)).mono fun e z he=> ?_
    obtain⟨rfl,⟨g,e2⟩,e3⟩:=he
    refine⟨.inr rfl,?_⟩
    rw[e2,e3,ev]
    rfl
   have b1:∀ {i:Nat}{z:List Value×TypeId},(⟨1,[x]⟩:Hp).blk? i=some z→i=0∧z=x:=fun{i z} hz=>by
    have:i<1:=Hp.blk_lt hz
    have hi:i=0:=by omega
    subst hi
    exact⟨rfl,(Option.some.inj hz).symm⟩
   have:=ZD(T:=Zs Tryz.prog Zf Zo hcV) Tryz.func50 Zkp(h0:=⟨1,[x]⟩)⟨rfl,fun b z hz=>by obtain⟨_,rfl⟩:=b1 hz;exact⟨NA.ros.1,NA.lt0,NA.ros.2⟩⟩(vals:=[.slice p' 0 c])(fun v hv=>by rw[List.mem_singleton.1 hv];exact NA.lt(by show 0<1;omega))(by rfl) hr.w E(s:=fun _=>a)(fun i z hz ht=>by obtain⟨_,rfl⟩:=b1 hz;exact fA ht)
   simp only[List.map_cons,List.map_nil] at this
   rw[eA _ rfl] at this
   exact this
  rcases ZH q1 with⟨rfl,rfl,rfl,e0⟩ | ⟨b,o,x,rfl,hx,r1,_,e0⟩
  ·exact absurd rfl hn
  ·rw[e0] at q2 hlen
   obtain⟨h1,h2,h3,h4,h5,h6,h7⟩:=zv r1
   have r:=Zoj(c:=c) h1 q2(by rw[h2];exact q3)
   rw[h2] at r
   have ev:vO h(some⟨b,o,none⟩) n=vb 65536(Zy x.1 o n):=by unfold vO;rw[e0]
   rw[ev]
   exact ZD(T:=Zs Tryz.prog Zf Zo hcV) Tryz.func50 Zoi(ZaJ h7)(vals:=[sl 0 o n c])(fun v hv=>by rw[List.mem_singleton.1 hv];rfl)(by rfl) r.w E(s:=fun _=>b)(zO hx h5 h6 rfl)
 ·cases hg
end Go.Proofs.YtjlponbdflkbjaaGreatDoor
